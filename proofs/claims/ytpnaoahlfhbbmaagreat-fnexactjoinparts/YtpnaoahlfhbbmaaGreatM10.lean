/- Several texts of one proof, in build order: GroundU, StreamH. -/
import Derived.Test.YtpnaoahlfhbbmaaGreatM8

/- Plain facts on slices of tables: what lies in memory, what a call owns, what the laws mark. -/
namespace Go.Proofs.YtpnaoahlfhbbmaaGreat
open Go.RowKit

/-- A table: its columns and its rows. -/
abbrev Tab := Int × List WRow
abbrev tat (ss : List Tab) (i : Nat) : Tab := ss.getD i (0, [])
theorem tat_mem {ss : List Tab} {i : Nat} (h : i < ss.length) : tat ss i ∈ ss := by
  rw [show tat ss i = ss[i] by simp [tat, List.getD, h]]; exact List.getElem_mem h
theorem tat_left {ss ss' : List Tab} {i : Nat} (h : i < ss.length) : tat (ss ++ ss') i = tat ss i := by simp [tat, List.getD, List.getElem?_append_left h]
theorem tat_last (ss : List Tab) (t : Tab) : tat (ss ++ [t]) ss.length = t := by simp [tat, List.getD]

/-- A slice of tables with the address a holds ss in the world w. -/
def AtSW (w : World) (a : Option Addr) (ss : List Tab) : Prop :=
  ss = [] ∨ ∃ b off, a = some ⟨b, off, none⟩ ∧ ∀ i, i < ss.length → ∃ a' c', w.cell? ⟨b, off + i * 2, none⟩ = some (.int .i64 (tat ss i).1) ∧ w.cell? ⟨b, off + i * 2 + 1, none⟩ = some (.slice a' (tat ss i).2.length c') ∧
    (tat ss i).2.length ≤ 9223372036854775807 ∧ AtW w a' (tat ss i).2
/-- The same, as a function reads it that hands its rows on. -/
def AtSM (w : World) (a : Option Addr) (ss : List Tab) : Prop :=
  ss = [] ∨ ∃ b off, a = some ⟨b, off, none⟩ ∧ ∀ i, i < ss.length → ∃ a' c', w.cell? ⟨b, off + i * 2, none⟩ = some (.int .i64 (tat ss i).1) ∧ w.cell? ⟨b, off + i * 2 + 1, none⟩ = some (.slice a' (tat ss i).2.length c') ∧
    (tat ss i).2.length ≤ 9223372036854775807 ∧ Formed a' (tat ss i).2.length c' ∧ AtM w a' (tat ss i).2

theorem AtSW.below {w w' : World} {a : Option Addr} {ss : List Tab} (h : AtSW w a ss) (hb : Below w.heap.size w w') : AtSW w' a ss := by
  rcases h with h | ⟨b, off, rfl, hc⟩
  · exact .inl h
  · refine .inr ⟨b, off, rfl, fun i hi => ?_⟩
    obtain ⟨a', c', h1, h2, h3, h4⟩ := hc i hi
    exact ⟨a', c', cell_later hb h1, cell_later hb h2, h3, h4.below hb⟩
theorem AtSW.alloc {w : World} {a : Option Addr} {ss : List Tab} (h : AtSW w a ss) (o : Obj) : AtSW (w.alloc o) a ss := h.below ((Below.refl _ _).alloc (Nat.le_refl _) o)
theorem AtSW.some {w : World} {a : Option Addr} {ss : List Tab} (h : AtSW w a ss) (hp : 0 < ss.length) :
    ∃ b off, a = Option.some ⟨b, off, none⟩ ∧ ∀ i, i < ss.length → ∃ a' c', w.cell? ⟨b, off + i * 2, none⟩ = Option.some (.int .i64 (tat ss i).1) ∧ w.cell? ⟨b, off + i * 2 + 1, none⟩ = Option.some (.slice a' (tat ss i).2.length c') ∧
      (tat ss i).2.length ≤ 9223372036854775807 ∧ AtW w a' (tat ss i).2 := by
  rcases h with rfl | h
  · simp at hp
  · exact h
theorem AtSM.below {w w' : World} {a : Option Addr} {ss : List Tab} (h : AtSM w a ss) (hb : Below w.heap.size w w') : AtSM w' a ss := by
  rcases h with h | ⟨b, off, rfl, hc⟩
  · exact .inl h
  · refine .inr ⟨b, off, rfl, fun i hi => ?_⟩
    obtain ⟨a', c', h1, h2, h3, h5, h4⟩ := hc i hi
    exact ⟨a', c', cell_later hb h1, cell_later hb h2, h3, h5, h4.below hb⟩
theorem AtSM.alloc {w : World} {a : Option Addr} {ss : List Tab} (h : AtSM w a ss) (o : Obj) : AtSM (w.alloc o) a ss := h.below ((Below.refl _ _).alloc (Nat.le_refl _) o)
theorem AtSM.drew {w : World} {a : Option Addr} {ss : List Tab} (h : AtSM w a ss) : AtSM w.drew a ss := h.below (Below.refl _ _).drew
theorem AtSM.some {w : World} {a : Option Addr} {ss : List Tab} (h : AtSM w a ss) (hp : 0 < ss.length) :
    ∃ b off, a = Option.some ⟨b, off, none⟩ ∧ ∀ i, i < ss.length → ∃ a' c', w.cell? ⟨b, off + i * 2, none⟩ = Option.some (.int .i64 (tat ss i).1) ∧ w.cell? ⟨b, off + i * 2 + 1, none⟩ = Option.some (.slice a' (tat ss i).2.length c') ∧
      (tat ss i).2.length ≤ 9223372036854775807 ∧ Formed a' (tat ss i).2.length c' ∧ AtM w a' (tat ss i).2 := by
  rcases h with rfl | h
  · simp at hp
  · exact h
theorem AtSM.atSW {w : World} {a : Option Addr} {ss : List Tab} (h : AtSM w a ss) : AtSW w a ss := by
  rcases h with h | ⟨b, off, rfl, hc⟩
  · exact .inl h
  · refine .inr ⟨b, off, rfl, fun i hi => ?_⟩
    obtain ⟨a', c', h1, h2, h3, _, h4⟩ := hc i hi
    exact ⟨a', c', h1, h2, h3, h4.atW⟩

/-- How many marks the first k tables take: one for the columns, and those of the rows. -/
def stot (ss : List Tab) (k : Nat) : Nat := ((ss.take k).map fun t => wtot t.2 t.2.length + 1).sum
theorem stot_zero (ss : List Tab) : stot ss 0 = 0 := rfl
theorem stot_succ (ss : List Tab) (k : Nat) (h : k < ss.length) : stot ss (k + 1) = stot ss k + (wtot (tat ss k).2 (tat ss k).2.length + 1) := by
  unfold stot
  rw [List.take_succ_eq_append_getElem h, List.map_append, List.sum_append]
  simp only [List.map_cons, List.map_nil, List.sum_cons, List.sum_nil, Nat.add_zero]
  simp [h]
theorem stot_grow (ss : List Tab) (j d : Nat) (h : j + d ≤ ss.length) : stot ss j + d ≤ stot ss (j + d) := by
  induction d with
  | zero => exact Nat.le_refl _
  | succ d ih => rw [show j + (d + 1) = (j + d) + 1 from rfl, stot_succ ss _ (by omega)]; have := ih (by omega); omega
theorem stot_mono (ss : List Tab) (j k : Nat) (h : j ≤ k) (hk : k ≤ ss.length) : stot ss j + (k - j) ≤ stot ss k := by
  have := stot_grow ss j (k - j) (by omega)
  rwa [show j + (k - j) = k by omega] at this
theorem stot_len (ss : List Tab) (k : Nat) (h : k ≤ ss.length) : k ≤ stot ss k := by have := stot_mono ss 0 k (by omega) h; rw [stot_zero] at this; omega
theorem stot_each (ss : List Tab) (n : Nat) (hn : ss.length = n) (i : Nat) (hi : i < n) : wtot (tat ss i).2 (tat ss i).2.length + 1 ≤ stot ss n := by
  have h1 := stot_succ ss i (by omega)
  have h2 := stot_mono ss (i + 1) n (by omega) (by omega)
  omega

/-- A list of tables that the laws' bound allows. -/
def SmU (ss : List Tab) (n : Nat) : Prop := ss.length = n ∧ stot ss n ≤ 1048576
theorem SmU.n {ss : List Tab} {n : Nat} (h : SmU ss n) : n ≤ 1048576 := by have := stot_len ss n (by have := h.1; omega); have := h.2; omega
theorem SmU.tab {ss : List Tab} {n : Nat} (h : SmU ss n) (i : Nat) (hi : i < n) : SmT (tat ss i).2 (tat ss i).2.length := ⟨rfl, by have := stot_each ss n h.1 i hi; have := h.2; omega⟩

section
variable {w w' : World} {lo hi : Nat} {a : Option Addr} {n c : Nat} {ts : List WRow}
theorem OwnT.kept {row : Option Nat} (h : OwnT w lo hi a n c ts) (hg : w.grownBy w' row) (hr : ∀ k, row = some k → k < lo ∨ hi ≤ k) : OwnT w' lo hi a n c ts := by obtain ⟨cs, h⟩ := h; exact ⟨cs, OwnWk.kept h hg hr⟩
theorem OwnT.setCell {a0 : Addr} (h : OwnT w lo hi a n c ts) (ha : a0.block < lo ∨ hi ≤ a0.block) (v : Value) : OwnT (w.setCell a0 v) lo hi a n c ts := by obtain ⟨cs, h⟩ := h; exact ⟨cs, OwnWk.setCell h ha v⟩
theorem OwnT.widen {lo' hi' : Nat} (h : OwnT w lo hi a n c ts) (h1 : lo' ≤ lo) (h2 : hi ≤ hi') (h3 : hi' ≤ w.heap.size) : OwnT w lo' hi' a n c ts := by obtain ⟨cs, h⟩ := h; exact ⟨cs, OwnWk.widen h h1 h2 h3⟩
theorem OwnT.top (h : OwnT w lo hi a n c ts) : hi ≤ w.heap.size := by obtain ⟨cs, h⟩ := h; exact h.top
end

/-- A slice of tables that the call itself made, its first k tables laid: each table's blocks lie from L i on and below H i, none among another one's. -/
structure OwnUk (w : World) (lo hi : Nat) (a : Option Addr) (n c : Nat) (ss : List Tab) (cells : List Value) (L H : Nat → Nat) (k : Nat) : Prop where
  len : ss.length = n
  top : hi ≤ w.heap.size
  outer : w.ownsRow lo 28 2 (.slice a n c) n cells
  outerLt : ∀ b, (Value.slice a n c).ownBlock = some b → b < hi
  row : ∀ i, i < k → ∃ a' c', cells[i * 2]? = some (.int .i64 (tat ss i).1) ∧ cells[i * 2 + 1]? = some (.slice a' (tat ss i).2.length c') ∧ OwnT w (L i) (H i) a' (tat ss i).2.length c' (tat ss i).2
  within : ∀ i, i < k → lo ≤ L i ∧ H i ≤ hi
  out : ∀ i, i < k → ∀ b, (Value.slice a n c).ownBlock = some b → b < L i ∨ H i ≤ b
  apart : ∀ i j, i < k → j < k → i ≠ j → H i ≤ L j ∨ H j ≤ L i
def OwnU (w : World) (lo hi : Nat) (a : Option Addr) (n c : Nat) (ss : List Tab) : Prop := ∃ cells L H, OwnUk w lo hi a n c ss cells L H n

section
variable {w w' : World} {lo hi : Nat} {a : Option Addr} {n c k : Nat} {ss : List Tab} {cells : List Value} {L H : Nat → Nat}

theorem OwnUk.below (h : OwnUk w lo hi a n c ss cells L H k) (hb : Below w.heap.size w w') : OwnUk w' lo hi a n c ss cells L H k :=
  ⟨h.len, Nat.le_trans h.top hb.size, owns_below h.outer hb, h.outerLt, fun i hi => by obtain ⟨a', c', h1, h2, h3⟩ := h.row i hi; exact ⟨a', c', h1, h2, h3.below hb⟩, h.within, h.out, h.apart⟩
theorem OwnUk.widen {lo' hi' : Nat} (h : OwnUk w lo hi a n c ss cells L H k) (h1 : lo' ≤ lo) (h2 : hi ≤ hi') (h3 : hi' ≤ w.heap.size) : OwnUk w lo' hi' a n c ss cells L H k :=
  ⟨h.len, h3, owns_mono h.outer h1, fun b hb => Nat.lt_of_lt_of_le (h.outerLt b hb) h2, h.row, fun i hi => by have := h.within i hi; omega, h.out, h.apart⟩
theorem OwnUk.blocks (h : OwnUk w lo hi a n c ss cells L H k) : ∀ b, (Value.slice a n c).ownBlock = some b → lo ≤ b ∧ b < hi := fun b hb => ⟨(h.outer.lt b hb).1, h.outerLt b hb⟩
theorem OwnUk.apartW {lo' hi' : Nat} (h : OwnUk w lo hi a n c ss cells L H k) (hp : Apart lo' hi' w w') (hd : hi ≤ lo' ∨ hi' ≤ lo) : OwnUk w' lo hi a n c ss cells L H k := by
  have hB := h.blocks
  refine ⟨h.len, Nat.le_trans h.top hp.size, hp.owns h.outer (fun k hk => by have := hB k hk; omega), h.outerLt, fun i hi => ?_, h.within, h.out, h.apart⟩
  obtain ⟨a', c', k1, k2, k3⟩ := h.row i hi
  have := h.within i hi
  exact ⟨a', c', k1, k2, k3.apartW hp (by omega)⟩
theorem OwnUk.kept {row : Option Nat} (h : OwnUk w lo hi a n c ss cells L H k) (hg : w.grownBy w' row) (hr : ∀ k, row = some k → k < lo ∨ hi ≤ k) : OwnUk w' lo hi a n c ss cells L H k := by
  have hB := h.blocks
  refine ⟨h.len, Nat.le_trans h.top hg.size, h.outer.kept hg ?_, h.outerLt, fun i hi => ?_, h.within, h.out, h.apart⟩
  · cases hv : (Value.slice a n c).ownBlock with
    | none => exact .inl rfl
    | some k => exact .inr (fun e => by have := hr k e.symm; have := hB k hv; omega)
  · obtain ⟨a', c', k1, k2, k3⟩ := h.row i hi
    have := h.within i hi
    exact ⟨a', c', k1, k2, k3.kept hg (fun b hb => by have := hr b hb; omega)⟩
theorem OwnUk.setCell {a0 : Addr} (h : OwnUk w lo hi a n c ss cells L H k) (ha : a0.block < lo ∨ hi ≤ a0.block) (v : Value) : OwnUk (w.setCell a0 v) lo hi a n c ss cells L H k :=
  h.kept (row := some a0.block) ⟨rfl, rfl, rfl, by simp [World.setCell], fun k _ hn => Below.heap_setCell w a0 v k (fun e => hn (by rw [e]))⟩ (fun k hk => by simp at hk; omega)

theorem OwnUk.start (hl : ss.length = n) (hh : hi ≤ w.heap.size) (ho : w.ownsRow lo 28 2 (.slice a n c) n cells) (hb : ∀ b, (Value.slice a n c).ownBlock = some b → b < hi) : OwnUk w lo hi a n c ss cells L H 0 :=
  ⟨hl, hh, ho, hb, fun i h => by omega, fun i h => by omega, fun i h => by omega, fun i j h => by omega⟩

theorem OwnUk.atSM (h : OwnUk w lo hi a n c ss cells L H n) (hs : SmU ss n) : AtSM w a ss := by
  rcases h.outer.2 with ⟨hv, h0⟩ | ⟨g, cap, cur, hv, _⟩
  · left
    have := h.len
    rw [h0] at this
    exact List.eq_nil_of_length_eq_zero this
  · simp only [Value.slice.injEq, true_and] at hv
    obtain ⟨rfl, rfl⟩ := hv
    refine .inr ⟨g, 0, rfl, fun i hi => ?_⟩
    rw [h.len] at hi
    obtain ⟨a', c', k1, k2, k3⟩ := h.row i hi
    have hl := h.outer.1
    have ht := hs.tab i hi
    refine ⟨a', c', ?_, ?_, by have := ht.n; omega, k3.formed, k3.atM ht⟩
    · rw [Nat.zero_add, h.outer.cellAt _ (by omega)]; exact k1
    · rw [Nat.zero_add, h.outer.cellAt _ (by omega)]; exact k2

/-- One more table is laid. -/
theorem OwnUk.put {w2 : World} {g m c' : Nat} {a' : Option Addr} {p : Int} (h : OwnUk w lo hi (some ⟨g, 0, none⟩) n c ss cells L H k) (hb : Below w.heap.size w w2) (hk : k < n)
    (hm : (tat ss k).2.length = m) (hx : (tat ss k).1 = p) (hlo : lo ≤ w.heap.size) (hrow : OwnT w2 w.heap.size w2.heap.size a' m c' (tat ss k).2) :
    OwnUk ((w2.setCell ⟨g, k * 2, none⟩ (.int .i64 p)).setCell ⟨g, k * 2 + 1, none⟩ (.slice a' m c')) lo w2.heap.size (some ⟨g, 0, none⟩) n c ss ((cells.set (k * 2) (.int .i64 p)).set (k * 2 + 1) (.slice a' m c'))
      (fun i => if i < k then L i else w.heap.size) (fun i => if i < k then H i else w2.heap.size) (k + 1) := by
  have h2 := h.below hb
  have hz := hb.size
  have hgl : lo ≤ g ∧ g < hi := h.blocks g rfl
  have htop := h.top
  have hl := h.outer.1
  have hset : ∀ i, i < k → ∀ d, d < 2 → ((cells.set (k * 2) (.int .i64 p)).set (k * 2 + 1) (.slice a' m c'))[i * 2 + d]? = cells[i * 2 + d]? := fun i hi d hd => by
    rw [List.getElem?_set_ne (by omega), List.getElem?_set_ne (by omega)]
  refine ⟨h.len, by simp [World.setCell], owns_two h2.outer _ _ _ _, fun b hb' => ?_, fun i hi => ?_, fun i hi => ?_, fun i hi b hb' => ?_, fun i j hi hj hij => ?_⟩
  · have := h.outerLt b hb'
    omega
  · by_cases e : i = k
    · subst e
      refine ⟨a', c', ?_, ?_, ?_⟩
      · rw [List.getElem?_set_ne (by omega), List.getElem?_set_self (by omega), hx]
      · rw [hm, List.getElem?_set_self (by simp; omega)]
      · simp only [Nat.lt_irrefl, if_false]
        rw [hm]
        exact (hrow.setCell (a0 := ⟨g, i * 2, none⟩) (.inl (by show g < _; omega)) _).setCell (a0 := ⟨g, i * 2 + 1, none⟩) (.inl (by show g < _; omega)) _
    · have hi' : i < k := by omega
      obtain ⟨a1, c1, k1, k2, k3⟩ := h2.row i hi'
      have ho := h2.out i hi' g rfl
      have e0 := hset i hi' 0 (by omega)
      have e1 := hset i hi' 1 (by omega)
      simp only [Nat.add_zero] at e0
      simp only [if_pos hi']
      exact ⟨a1, c1, by rw [e0]; exact k1, by rw [e1]; exact k2, (k3.setCell (a0 := ⟨g, k * 2, none⟩) ho _).setCell (a0 := ⟨g, k * 2 + 1, none⟩) ho _⟩
  · by_cases e : i = k
    · subst e; simp only [Nat.lt_irrefl, if_false]; omega
    · simp only [if_pos (show i < k by omega)]
      have := h.within i (by omega)
      omega
  · have hgb : g = b := by simpa [Value.ownBlock] using hb'
    by_cases e : i = k
    · subst e; simp only [Nat.lt_irrefl, if_false]; omega
    · simp only [if_pos (show i < k by omega)]
      exact h.out i (by omega) b hb'
  · by_cases e : i = k
    · subst e
      simp only [Nat.lt_irrefl, if_false, if_pos (show j < i by omega)]
      have := h.within j (by omega)
      omega
    · simp only [if_pos (show i < k by omega)]
      by_cases e2 : j = k
      · subst e2
        simp only [Nat.lt_irrefl, if_false]
        have := h.within i (by omega)
        omega
      · simp only [if_pos (show j < k by omega)]
        exact h.apart i j (by omega) (by omega) hij

/-- One more table at the slice's end. -/
theorem OwnUk.pushed {w2 w3 w4 : World} {m c' g cap : Nat} {a' : Option Addr} {p : Int} {ts : List WRow} (h : OwnUk w lo hi a n c ss cells L H n) (hlo : lo ≤ w.heap.size) (hb : Below w.heap.size w w2)
    (hm : ts.length = m) (hrow : OwnT w2 w.heap.size w2.heap.size a' m c' ts) (hb3 : Below w2.heap.size w2 w3)
    (hown : w4.ownsRow lo 28 2 (.slice (some ⟨g, 0, none⟩) (n + 1) cap) (n + 1) (cells ++ [.int .i64 p, .slice a' m c'])) (hgr : w3.grownBy w4 (Value.slice a n c).ownBlock)
    (hat : (Value.slice a n c).ownBlock = some g ∨ w2.heap.size ≤ g) (hlt : g < w4.heap.size) :
    OwnUk w4 lo w4.heap.size (some ⟨g, 0, none⟩) (n + 1) cap (ss ++ [(p, ts)]) (cells ++ [.int .i64 p, .slice a' m c']) (fun i => if i < n then L i else w.heap.size) (fun i => if i < n then H i else w2.heap.size) (n + 1) := by
  have hz := h.len
  have hl := h.outer.1
  have hz2 := hb.size
  have hz3 := hb3.size
  have hz4 := hgr.size
  have htop := h.top
  have hL : ∀ i, i < n → (cells ++ [.int .i64 p, .slice a' m c'])[i * 2]? = cells[i * 2]? ∧ (cells ++ [.int .i64 p, .slice a' m c'])[i * 2 + 1]? = cells[i * 2 + 1]? := fun i hi =>
    ⟨List.getElem?_append_left (by omega), List.getElem?_append_left (by omega)⟩
  have hN0 : (cells ++ [.int .i64 p, .slice a' m c'])[n * 2]? = some (.int .i64 p) := by
    rw [List.getElem?_append_right (by omega), show n * 2 - cells.length = 0 by omega]; rfl
  have hN1 : (cells ++ [.int .i64 p, .slice a' m c'])[n * 2 + 1]? = some (.slice a' m c') := by
    rw [List.getElem?_append_right (by omega), show n * 2 + 1 - cells.length = 1 by omega]; rfl
  have hB := h.blocks
  refine ⟨by simp [hz], Nat.le_refl _, hown, fun b hb' => by simp [Value.ownBlock] at hb'; omega, fun i hi => ?_, fun i hi => ?_, fun i hi b hb' => ?_, fun i j hi hj hij => ?_⟩
  · by_cases e : i = n
    · subst e
      rw [show tat (ss ++ [(p, ts)]) i = (p, ts) by rw [← hz]; exact tat_last ss _]
      simp only [Nat.lt_irrefl, if_false, hm]
      exact ⟨a', c', hN0, hN1, (hrow.below hb3).kept hgr (fun b hb' => by have := hB b hb'; omega)⟩
    · have hi' : i < n := by omega
      obtain ⟨a1, c1, k1, k2, k3⟩ := h.row i hi'
      rw [tat_left (by omega)]
      simp only [if_pos hi']
      exact ⟨a1, c1, by rw [(hL i hi').1]; exact k1, by rw [(hL i hi').2]; exact k2, ((k3.below hb).below hb3).kept hgr (h.out i hi')⟩
  · by_cases e : i = n
    · subst e; simp only [Nat.lt_irrefl, if_false]; omega
    · simp only [if_pos (show i < n by omega)]
      have := h.within i (by omega)
      omega
  · have hgb : g = b := by simpa [Value.ownBlock] using hb'
    subst hgb
    by_cases e : i = n
    · subst e
      simp only [Nat.lt_irrefl, if_false]
      rcases hat with h' | h'
      · have := hB g h'; omega
      · omega
    · simp only [if_pos (show i < n by omega)]
      have := h.within i (by omega)
      rcases hat with h' | h'
      · exact h.out i (by omega) g h'
      · omega
  · by_cases e : i = n
    · subst e
      simp only [Nat.lt_irrefl, if_false, if_pos (show j < i by omega)]
      have := h.within j (by omega)
      omega
    · simp only [if_pos (show i < n by omega)]
      by_cases e2 : j = n
      · subst e2
        simp only [Nat.lt_irrefl, if_false]
        have := h.within i (by omega)
        omega
      · simp only [if_pos (show j < n by omega)]
        exact h.apart i j (by omega) (by omega) hij
end

theorem Apart.widen {lo hi lo' hi' : Nat} {w w' : World} (h : Apart lo hi w w') (h1 : lo' ≤ lo) (h2 : hi ≤ hi') : Apart lo' hi' w w' := ⟨h.os, h.tape, h.output, h.size, fun k hk hd => h.block k hk (by omega)⟩

/-- The first k tables as the laws mark them, the others as they were. -/
def mixU (m : Int) (ss : List Tab) (k : Nat) : List Tab := (List.range ss.length).map fun i => if i < k then (m + stot ss i, markW (m + stot ss i + 1) (tat ss i).2) else tat ss i
/-- The tables as the laws mark them, from m on. -/
def markU (m : Int) (ss : List Tab) : List Tab := (List.range ss.length).map fun i => (m + stot ss i, markW (m + stot ss i + 1) (tat ss i).2)
theorem markU_length (m : Int) (ss : List Tab) : (markU m ss).length = ss.length := by simp [markU]
theorem markU_at (m : Int) (ss : List Tab) (i : Nat) (h : i < ss.length) : tat (markU m ss) i = (m + stot ss i, markW (m + stot ss i + 1) (tat ss i).2) := by simp [markU, h]
theorem mixU_length (m : Int) (ss : List Tab) (k : Nat) : (mixU m ss k).length = ss.length := by simp [mixU]
theorem mixU_at (m : Int) (ss : List Tab) (k i : Nat) (h : i < ss.length) : tat (mixU m ss k) i = if i < k then (m + stot ss i, markW (m + stot ss i + 1) (tat ss i).2) else tat ss i := by simp [mixU, h]
theorem mixU_zero (m : Int) (ss : List Tab) : mixU m ss 0 = ss := by
  apply List.ext_getElem?
  intro i
  by_cases h : i < ss.length
  · simp [mixU, h]
  · simp [mixU, h]
theorem mixU_all (m : Int) (ss : List Tab) : mixU m ss ss.length = markU m ss := by
  unfold mixU markU
  exact List.map_congr_left fun i hi => if_pos (List.mem_range.1 hi)

theorem OwnUk.marked {w w2 : World} {lo hi : Nat} {g n c k l : Nat} {ss : List Tab} {cells : List Value} {L H : Nat → Nat} {m v : Int} {a' : Option Addr} {c' : Nat} (h : OwnUk w lo hi (some ⟨g, 0, none⟩) n c (mixU m ss k) cells L H n) (hz : ss.length = n) (hk : k < n)
    (hl : (tat ss k).2.length = l) (hv : m + stot ss k = v) (hcell : cells[k * 2 + 1]? = some (.slice a' l c')) (hrow : OwnT w2 (L k) (H k) a' l c' (markW (v + 1) (tat ss k).2)) (hg : Apart (L k) (H k) (w.setCell ⟨g, k * 2, none⟩ (.int .i64 v)) w2) :
    OwnUk w2 lo hi (some ⟨g, 0, none⟩) n c (mixU m ss (k + 1)) (cells.set (k * 2) (.int .i64 v)) L H n := by
  have hl2 := h.outer.1
  have hgk := h.out k hk g rfl
  have hw := h.within
  have ho1 : (w.setCell ⟨g, k * 2, none⟩ (.int .i64 v)).ownsRow lo 28 2 (.slice (some ⟨g, 0, none⟩) n c) n (cells.set (k * 2) (.int .i64 v)) := (h.outer.stored _ _).1
  refine ⟨by rw [mixU_length]; exact hz, by have := h.top; have := hg.size; simp [World.setCell] at this; omega, hg.owns ho1 (fun b hb => ?_), h.outerLt, fun i hi => ?_, h.within, h.out, h.apart⟩
  · have hgb : g = b := by simpa [Value.ownBlock] using hb
    omega
  · by_cases e : i = k
    · subst e
      rw [mixU_at m ss (i + 1) i (by omega), if_pos (by omega)]
      refine ⟨a', c', ?_, ?_, ?_⟩
      · rw [List.getElem?_set_self (by omega), hv]
      · rw [List.getElem?_set_ne (by omega)]; simp only [markW_length, hl]; exact hcell
      · simp only [markW_length, hl]; rw [hv]; exact hrow
    · obtain ⟨a1, c1, k1, k2, k3⟩ := h.row i hi
      have hm1 : tat (mixU m ss (k + 1)) i = tat (mixU m ss k) i := by
        rw [mixU_at m ss (k + 1) i (by omega), mixU_at m ss k i (by omega)]
        by_cases e1 : i < k
        · rw [if_pos e1, if_pos (by omega)]
        · rw [if_neg e1, if_neg (by omega)]
      rw [hm1]
      have hoi := h.out i hi g rfl
      have hap := h.apart i k hi hk e
      exact ⟨a1, c1, by rw [List.getElem?_set_ne (by omega)]; exact k1, by rw [List.getElem?_set_ne (by omega)]; exact k2, (k3.setCell (a0 := ⟨g, k * 2, none⟩) hoi _).apartW hg hap⟩

section
variable {w w' : World} {lo hi : Nat} {a : Option Addr} {n c : Nat} {ss : List Tab}
theorem OwnU.below (h : OwnU w lo hi a n c ss) (hb : Below w.heap.size w w') : OwnU w' lo hi a n c ss := by obtain ⟨cs, L, H, h⟩ := h; exact ⟨cs, L, H, h.below hb⟩
theorem OwnU.apartW {lo' hi' : Nat} (h : OwnU w lo hi a n c ss) (hp : Apart lo' hi' w w') (hd : hi ≤ lo' ∨ hi' ≤ lo) : OwnU w' lo hi a n c ss := by obtain ⟨cs, L, H, h⟩ := h; exact ⟨cs, L, H, h.apartW hp hd⟩
theorem OwnU.atM (h : OwnU w lo hi a n c ss) (hs : SmU ss n) : AtSM w a ss := by obtain ⟨cs, L, H, h⟩ := h; exact h.atSM hs
theorem OwnU.atSW (h : OwnU w lo hi a n c ss) (hs : SmU ss n) : AtSW w a ss := (h.atM hs).atSW
theorem OwnU.len (h : OwnU w lo hi a n c ss) : ss.length = n := by obtain ⟨cs, L, H, h⟩ := h; exact h.len
theorem OwnU.widen {lo' hi' : Nat} (h : OwnU w lo hi a n c ss) (h1 : lo' ≤ lo) (h2 : hi ≤ hi') (h3 : hi' ≤ w.heap.size) : OwnU w lo' hi' a n c ss := by obtain ⟨cs, L, H, h⟩ := h; exact ⟨cs, L, H, h.widen h1 h2 h3⟩
theorem OwnU.setCell {a0 : Addr} (h : OwnU w lo hi a n c ss) (ha : a0.block < lo ∨ hi ≤ a0.block) (v : Value) : OwnU (w.setCell a0 v) lo hi a n c ss := by obtain ⟨cs, L, H, h⟩ := h; exact ⟨cs, L, H, h.setCell ha v⟩
theorem OwnU.atMark {m : Int} (h : OwnU w lo hi a n c (markU m ss)) (hs : SmU ss n) : AtSW w a (markU m ss) := by
  obtain ⟨cells, L, H, h⟩ := h
  rcases h.outer.2 with ⟨hv, h0⟩ | ⟨g, cap, cur, hv, _⟩
  · left
    have := h.len
    rw [h0] at this
    exact List.eq_nil_of_length_eq_zero this
  · simp only [Value.slice.injEq, true_and] at hv
    obtain ⟨rfl, rfl⟩ := hv
    refine .inr ⟨g, 0, rfl, fun i hi => ?_⟩
    rw [h.len] at hi
    obtain ⟨a', c', k1, k2, k3⟩ := h.row i hi
    have hl := h.outer.1
    have ht := hs.tab i hi
    rw [markU_at m ss i (by rw [hs.1]; exact hi)] at k1 k2 k3 ⊢
    refine ⟨a', c', ?_, ?_, by simp only [markW_length]; have := ht.n; omega, ?_⟩
    · rw [Nat.zero_add, h.outer.cellAt _ (by omega)]; exact k1
    · rw [Nat.zero_add, h.outer.cellAt _ (by omega)]; exact k2
    · simp only [markW_length] at k3
      exact k3.atMark ht
theorem OwnU.set2 {g : Nat} (h : OwnU w lo hi a n c ss) (hg : g < lo ∨ hi ≤ g) (u v : Value) : OwnU ((w.setCell ⟨g, 0, none⟩ u).setCell ⟨g, 1, none⟩ v) lo hi a n c ss :=
  (h.setCell (a0 := ⟨g, 0, none⟩) hg u).setCell (a0 := ⟨g, 1, none⟩) hg v
theorem OwnU.nil (w : World) (lo : Nat) : OwnU w lo w.heap.size none 0 0 [] := ⟨[], fun _ => 0, fun _ => 0, OwnUk.start rfl (Nat.le_refl _) (World.ownsRow_nil _ _ _ _) (fun b hb => by cases hb)⟩
end

end Go.Proofs.YtpnaoahlfhbbmaaGreat

/- Contracts of the laws' helpers over tables in a slice and streams: szTableS, szStream, toTableS, toStream, eqTableS, eqStream. -/
namespace Go.Proofs.YtpnaoahlfhbbmaaGreat
open Go.RowKit

set_option maxHeartbeats 1000000 in
theorem szTableS_any (a : Option Addr) (n c : Nat) (ss : List Tab) (l : Int) (w : World) (hz : ss.length = n) (hn : n ≤ 9223372036854775807) (h0 : 0 ≤ l) (h1 : l ≤ 1048576) (ha : AtSW w a ss) :
    Calls Tryz.prog 4 #[.slice a n c, .int .i64 l] w fun e w' => e = .returned (.int .i64 (leftOf l (stot ss n))) ∧ Below w.heap.size w w' := by
  have hle := stot_len ss n (by omega)
  by_cases hb : l < n
  · have h' : l - (n : Int) < 0 := by omega
    go_enter Tryz.func4, Tryz.ntmps4
    go_wp2
    go_ret
    exact ⟨ret_int (leftOf_no (by omega)).symm, Below.refl _ _⟩
  · have h' : ¬ l - (n : Int) < 0 := by omega
    by_cases hn0 : n = 0
    · subst hn0
      have ht : stot ss 0 = 0 := rfl
      go_enter Tryz.func4, Tryz.ntmps4
      go_wp2
      refine wp_loop_rounds 1 ?_
      rw [rounds_succ]
      go_wp2
      go_ret
      exact ⟨ret_int (by rw [ht, leftOf_yes (by omega)]; omega), Below.refl _ _⟩
    · go_enter Tryz.func4, Tryz.ntmps4
      go_wp2
      go_loopw [1, 5] (fun q i wr => ∃ (k : Nat) (r : Int), k ≤ n ∧ i = .int .i64 k ∧ q = .int .i64 r ∧ 0 ≤ r ∧ r ≤ 1048576 ∧ r + stot ss k - k = l - n ∧ Below w.heap.size w wr) (fun _ i _ => n - (intOf i).toNat)
      case atStart => exact ⟨0, l - n, Nat.zero_le _, rfl, rfl, by omega, by omega, by rw [stot_zero]; omega, Below.refl _ _⟩
      case round =>
        obtain ⟨k, r, hk, rfl, rfl, hr0, hr1, hr, hbw⟩ := hrel
        by_cases hlt : k < n
        · obtain ⟨b, off, rfl, hc⟩ := (ha.below hbw).some (by omega)
          obtain ⟨a', c', hcw, hcx, hm, hat⟩ := hc k (by omega)
          have hts := stot_succ ss k (by omega)
          have htl := stot_mono ss (k + 1) n (by omega) (by omega)
          generalize tat ss k = Y at *
          obtain ⟨x, us⟩ := Y
          simp only at hcw hcx hm hat hts
          obtain ⟨m, hmm⟩ : ∃ m, us.length = m := ⟨_, rfl⟩
          rw [hmm] at hcx hm hts
          obtain ⟨T, hT⟩ : ∃ T : Nat, wtot us m = T := ⟨_, rfl⟩
          rw [hT] at hts
          have HM := Hid.mk hmm
          have HTT := Hid.mk hT
          have HR := Hid.mk hr
          have HT := Hid.mk hts
          have HL := Hid.mk htl
          have hki : (k : Int) < (n : Int) := by omega
          clear hmm hc hr hts ha htl hT
          by_cases hfit : r < T
          · go_wp2_with fail
            refine (szTable_any _ _ _ us _ _ _ HM.out hm hr0 hr1 hat).mono ?_
            rintro e w' ⟨rfl, hb'⟩
            rw [HTT.out, leftOf_no (by omega)]
            go_wp2
            go_ret
            exact ⟨ret_int (leftOf_no (by have := HR.out; have := HT.out; have := HL.out; omega)).symm, hbw.trans (hb'.mono hbw.size)⟩
          · have hd : ¬ r - (T : Int) < 0 := by omega
            go_wp2_with fail
            refine (szTable_any _ _ _ us _ _ _ HM.out hm hr0 hr1 hat).mono ?_
            rintro e w' ⟨rfl, hb'⟩
            rw [HTT.out, leftOf_yes (by omega)]
            go_wp2
            go_roundw
            case rel => exact ⟨k + 1, r - T, by omega, by go_num, rfl, by omega, by omega, by have := HR.out; have := HT.out; omega, hbw.trans (hb'.mono hbw.size)⟩
            case measure => simp [intOf]; omega
        · obtain rfl : k = n := by omega
          have HR := Hid.mk hr
          clear hr
          go_wp2
          go_ret
          exact ⟨ret_int (by have := HR.out; rw [leftOf_yes (by omega)]; omega), hbw⟩

theorem Tryz.infoT : (Tryz.prog.info? 28).map (fun i => (i.zero, i.size, i.bytes)) = some (some (.agg #[.int .i64 0, .slice none 0 0]), 2, 32) := by kernel_rfl

set_option maxHeartbeats 2000000 in
theorem toTableS_any (a : Option Addr) (n c : Nat) (ss : List Tab) (w : World) (hs : SmU ss n) (ha : AtSW w a ss) :
    Calls Tryz.prog 7 #[.slice a n c] w fun e w' => ∃ g, e = .returned (.slice (some ⟨g, 0, none⟩) n n) ∧ OwnU w' w.heap.size w'.heap.size (some ⟨g, 0, none⟩) n n ss ∧ Below w.heap.size w w' := by
  obtain ⟨i0, hi, hz0, hz1, hz2⟩ := info_parts Tryz.infoT
  have hz := hs.1
  have hn := hs.n
  go_enter Tryz.func7, Tryz.ntmps7
  go_wp2_with (at_make; refine wpList_make_full _ rfl _ _ 31 rfl w.heap.size 28 i0 (.agg #[.int .i64 0, .slice none 0 0]) 2 Tryz.underlying31 hi hz0 hz1 .i64 .i64 _ _ n rfl rfl rfl rfl (by rw [hz2]; omega) (by unfold maxLen; omega) (Nat.le_refl _) ?_; intro w1 hown hg)
  have hb1 : Below w.heap.size w w1 := (Below.refl _ _).grown hg (Nat.le_refl _) (by simp)
  have hlt1 := (hown.lt w.heap.size rfl).2
  have hst : OwnUk w1 w.heap.size w1.heap.size (some ⟨w.heap.size, 0, none⟩) n n ss _ (fun _ => 0) (fun _ => 0) 0 := OwnUk.start hz (Nat.le_refl _) hown (fun b hb => (hown.lt b hb).2)
  obtain ⟨cs, hcs⟩ : ∃ cs, cs = (madeCells (Value.agg #[.int .i64 0, .slice none 0 0]).cells (n * 2)).toList := ⟨_, rfl⟩
  rw [← hcs] at hst
  clear hcs hown hg
  go_loopw [4] (fun i wr => ∃ (k : Nat) (cells : List Value) (L H : Nat → Nat), k ≤ n ∧ i = .int .i64 k ∧ OwnUk wr w.heap.size wr.heap.size (some ⟨w.heap.size, 0, none⟩) n n ss cells L H k ∧ w.heap.size < wr.heap.size ∧ Below w.heap.size w wr) (fun i _ => n - (intOf i).toNat)
  case atStart => exact ⟨0, cs, _, _, Nat.zero_le _, rfl, hst, hlt1, hb1⟩
  case round =>
    clear hst hb1 hlt1 cs
    obtain ⟨k, cells, L, H, hk, rfl, ho, hzr, hbw⟩ := hrel
    by_cases hlt : k < n
    · obtain ⟨b, off, rfl, hc⟩ := (ha.below hbw).some (by omega)
      obtain ⟨a', c', hcy, hcx, _, hat⟩ := hc k (by omega)
      have hsm := hs.tab k hlt
      have hki : (k : Int) < (n : Int) := by omega
      have HO := Hid.mk ho
      obtain ⟨ys, hys⟩ : ∃ ys, ys = (tat ss k).2 := ⟨_, rfl⟩
      obtain ⟨x, hx⟩ : ∃ x, x = (tat ss k).1 := ⟨_, rfl⟩
      obtain ⟨m, hm⟩ : ∃ m, ys.length = m := ⟨_, rfl⟩
      rw [← hys, hm] at hcx hsm
      rw [← hys] at hat
      rw [← hx] at hcy
      have HYS := Hid.mk hys
      have HX := Hid.mk hx
      have HM := Hid.mk hm
      clear hys hm hx hc ha ho hs
      go_wp2_with fail
      refine (toTableG a' _ c' ys _ _ hsm hat).mono ?_
      rintro e w2 ⟨g2, rfl, ho2, hb2⟩
      have hput := HO.out.put (m := m) (c' := m) (a' := some ⟨g2, 0, none⟩) hb2 hlt (by rw [← HYS.out]; exact HM.out) HX.out.symm (Nat.le_of_lt hzr) (by rw [← HYS.out]; exact ho2)
      have hout := (HO.out.below hb2).outer
      have hln := hout.1
      obtain ⟨u, hu⟩ : ∃ u, cells[k * 2]? = some u := ⟨_, List.getElem?_eq_getElem (by omega)⟩
      obtain ⟨u', hu'⟩ : ∃ u, cells[k * 2 + 1]? = some u := ⟨_, List.getElem?_eq_getElem (by omega)⟩
      have hco : w2.cell? ⟨w.heap.size, k * 2, none⟩ = some u := (hout.cellAt _ (by omega)).trans hu
      have hco' : w2.cell? ⟨w.heap.size, k * 2 + 1, none⟩ = some u' := (hout.cellAt _ (by omega)).trans hu'
      have hfo : w2.frozen? ⟨w.heap.size, k * 2, none⟩ = false := hout.frozenAt _
      have hfo' : w2.frozen? ⟨w.heap.size, k * 2 + 1, none⟩ = false := hout.frozenAt _
      have HP := Hid.mk hput
      have z2 := hb2.size
      have HB : Hid (Below w.heap.size w ((w2.setCell ⟨w.heap.size, k * 2, none⟩ (.int .i64 x)).setCell ⟨w.heap.size, k * 2 + 1, none⟩ (.slice (some ⟨g2, 0, none⟩) m m))) := ((hbw.trans (hb2.mono hbw.size)).setCell (Nat.le_refl _) _).setCell (Nat.le_refl _) _
      clear hput hout hln hu hu' hb2 hbw ho2 hcx hcy hat
      go_wp2
      go_roundw
      case rel => exact ⟨k + 1, _, _, _, by omega, by go_num, by simpa [World.setCell] using HP.out, by simp [World.setCell]; omega, HB.out⟩
      case measure => simp [intOf]; omega
    · obtain rfl : k = n := by omega
      go_wp2
      go_ret
      exact ⟨_, rfl, ⟨_, _, _, ho⟩, hbw⟩

set_option maxHeartbeats 2000000 in
theorem eqTableS_any (a a' : Option Addr) (n c c' : Nat) (ss : List Tab) (w : World) (hs : SmU ss n) (ha : AtSW w a ss) (ha' : AtSW w a' ss) :
    Calls Tryz.prog 11 #[.slice a n c, .slice a' n c'] w fun e w' => e = .returned (.bool true) ∧ Below w.heap.size w w' := by
  have hz := hs.1
  have hn := hs.n
  by_cases h0 : n = 0
  · subst h0
    go_enter Tryz.func11, Tryz.ntmps11
    go_wp2
    refine wp_loop_rounds 1 ?_
    rw [rounds_succ]
    go_wp2
    go_ret
    exact ⟨rfl, Below.refl _ _⟩
  · go_enter Tryz.func11, Tryz.ntmps11
    go_wp2
    go_loopw [5] (fun i wr => ∃ (k : Nat), k ≤ n ∧ i = .int .i64 k ∧ Below w.heap.size w wr) (fun i _ => n - (intOf i).toNat)
    case atStart => exact ⟨0, Nat.zero_le _, rfl, Below.refl _ _⟩
    case round =>
      obtain ⟨k, hk, rfl, hbw⟩ := hrel
      by_cases hlt : k < n
      · obtain ⟨b, off, rfl, hc⟩ := (ha.below hbw).some (by omega)
        obtain ⟨b', off', rfl, hc'⟩ := (ha'.below hbw).some (by omega)
        obtain ⟨q, d, hwx, hcx, _, hat⟩ := hc k (by omega)
        obtain ⟨q', d', hwy, hcy, _, hat'⟩ := hc' k (by omega)
        have hsm := hs.tab k hlt
        generalize tat ss k = Y at *
        obtain ⟨x, us⟩ := Y
        simp only at hcx hcy hwx hwy hat hat' hsm
        obtain ⟨m, hmm⟩ : ∃ m, us.length = m := ⟨_, rfl⟩
        rw [hmm] at hcx hcy hsm
        have HM := Hid.mk hmm
        have hki : (k : Int) < (n : Int) := by omega
        clear hc hc' hmm ha ha' hs
        go_wp2_with fail
        go_region_held3 (fun w' => w'.cell? ⟨b, off + k * 2, none⟩ = some (.int .i64 x) ∧ w'.cell? ⟨b, off + k * 2 + 1, none⟩ = some (.slice q m d) ∧ w'.cell? ⟨b', off' + k * 2, none⟩ = some (.int .i64 x) ∧ w'.cell? ⟨b', off' + k * 2 + 1, none⟩ = some (.slice q' m d')) (refine ⟨?_, ?_, ?_, ?_⟩ <;> assumption)
          (first | (go_at_call 10; refine (eqTableG _ _ _ _ _ us _ _ hsm hat.drew hat'.drew).mono ?_; rintro e w2 ⟨rfl, hb2⟩; have e1 := cell_later hb2 hcx; have e2 := cell_later hb2 hcy; have e3 := cell_later hb2 hwx; have e4 := cell_later hb2 hwy))
        go_wp2
        go_roundw
        case rel => exact ⟨k + 1, by omega, by go_num, hbw.drew.trans (hb2.mono hbw.size)⟩
        case measure => simp [intOf]; omega
      · go_wp2
        go_ret
        exact ⟨rfl, hbw⟩

end Go.Proofs.YtpnaoahlfhbbmaaGreat
