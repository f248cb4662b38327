/- Several texts of one proof, in build order: GroundU, TbsR, RaP, AtT. -/
import Derived.Test.YthiabjkjpjmahaaGreatM10
import Derived.Test.YthiabjkjpjmahaaGreatM24
import Derived.Test.YthiabjkjpjmahaaGreatM30
import Derived.Test.YthiabjkjpjmahaaGreatM31
import Derived.Test.YthiabjkjpjmahaaGreatM32
import Derived.Test.YthiabjkjpjmahaaGreatM34

/- Plain facts on slices of tables: what lies in memory, what a call owns, what the laws mark. -/
namespace Go.Proofs.YthiabjkjpjmahaaGreat
open Go.RowKit

/-- A table: its columns and its rows. -/
abbrev Tab := Int × List WRow
abbrev tat (ss : List Tab) (i : Nat) : Tab := ss.getD i (0, [])
theorem tat_mem {ss : List Tab} {i : Nat} (h : i < ss.length) : tat ss i ∈ ss := by
  rw [show tat ss i = ss[i] by simp [tat, List.getD, h]]; exact List.getElem_mem h
theorem tat_left {ss ss' : List Tab} {i : Nat} (h : i < ss.length) : tat (ss ++ ss') i = tat ss i := by simp [tat, List.getD, List.getElem?_append_left h]
theorem tat_last (ss : List Tab) (t : Tab) : tat (ss ++ [t]) ss.length = t := by simp [tat, List.getD]

/-- A slice of tables with the address a holds ss in the world w. -/
def AtSW (w : World) (a : Option Addr) (ss : List Tab) : Prop :=
  ss = [] ∨ ∃ b off, a = some ⟨b, off, none⟩ ∧ ∀ i, i < ss.length → ∃ a' c', w.cell? ⟨b, off + i * 2, none⟩ = some (.int .i64 (tat ss i).1) ∧ w.cell? ⟨b, off + i * 2 + 1, none⟩ = some (.slice a' (tat ss i).2.length c') ∧
    (tat ss i).2.length ≤ 9223372036854775807 ∧ AtW w a' (tat ss i).2
/-- The same, as a function reads it that hands its rows on. -/
def AtSM (w : World) (a : Option Addr) (ss : List Tab) : Prop :=
  ss = [] ∨ ∃ b off, a = some ⟨b, off, none⟩ ∧ ∀ i, i < ss.length → ∃ a' c', w.cell? ⟨b, off + i * 2, none⟩ = some (.int .i64 (tat ss i).1) ∧ w.cell? ⟨b, off + i * 2 + 1, none⟩ = some (.slice a' (tat ss i).2.length c') ∧
    (tat ss i).2.length ≤ 9223372036854775807 ∧ Formed a' (tat ss i).2.length c' ∧ AtM w a' (tat ss i).2

theorem AtSW.below {w w' : World} {a : Option Addr} {ss : List Tab} (h : AtSW w a ss) (hb : Below w.heap.size w w') : AtSW w' a ss := by
  rcases h with h | ⟨b, off, rfl, hc⟩
  · exact .inl h
  · refine .inr ⟨b, off, rfl, fun i hi => ?_⟩
    obtain ⟨a', c', h1, h2, h3, h4⟩ := hc i hi
    exact ⟨a', c', cell_later hb h1, cell_later hb h2, h3, h4.below hb⟩
theorem AtSW.alloc {w : World} {a : Option Addr} {ss : List Tab} (h : AtSW w a ss) (o : Obj) : AtSW (w.alloc o) a ss := h.below ((Below.refl _ _).alloc (Nat.le_refl _) o)
theorem AtSW.some {w : World} {a : Option Addr} {ss : List Tab} (h : AtSW w a ss) (hp : 0 < ss.length) :
    ∃ b off, a = Option.some ⟨b, off, none⟩ ∧ ∀ i, i < ss.length → ∃ a' c', w.cell? ⟨b, off + i * 2, none⟩ = Option.some (.int .i64 (tat ss i).1) ∧ w.cell? ⟨b, off + i * 2 + 1, none⟩ = Option.some (.slice a' (tat ss i).2.length c') ∧
      (tat ss i).2.length ≤ 9223372036854775807 ∧ AtW w a' (tat ss i).2 := by
  rcases h with rfl | h
  · simp at hp
  · exact h
theorem AtSM.below {w w' : World} {a : Option Addr} {ss : List Tab} (h : AtSM w a ss) (hb : Below w.heap.size w w') : AtSM w' a ss := by
  rcases h with h | ⟨b, off, rfl, hc⟩
  · exact .inl h
  · refine .inr ⟨b, off, rfl, fun i hi => ?_⟩
    obtain ⟨a', c', h1, h2, h3, h5, h4⟩ := hc i hi
    exact ⟨a', c', cell_later hb h1, cell_later hb h2, h3, h5, h4.below hb⟩
theorem AtSM.alloc {w : World} {a : Option Addr} {ss : List Tab} (h : AtSM w a ss) (o : Obj) : AtSM (w.alloc o) a ss := h.below ((Below.refl _ _).alloc (Nat.le_refl _) o)
theorem AtSM.drew {w : World} {a : Option Addr} {ss : List Tab} (h : AtSM w a ss) : AtSM w.drew a ss := h.below (Below.refl _ _).drew
theorem AtSM.some {w : World} {a : Option Addr} {ss : List Tab} (h : AtSM w a ss) (hp : 0 < ss.length) :
    ∃ b off, a = Option.some ⟨b, off, none⟩ ∧ ∀ i, i < ss.length → ∃ a' c', w.cell? ⟨b, off + i * 2, none⟩ = Option.some (.int .i64 (tat ss i).1) ∧ w.cell? ⟨b, off + i * 2 + 1, none⟩ = Option.some (.slice a' (tat ss i).2.length c') ∧
      (tat ss i).2.length ≤ 9223372036854775807 ∧ Formed a' (tat ss i).2.length c' ∧ AtM w a' (tat ss i).2 := by
  rcases h with rfl | h
  · simp at hp
  · exact h
theorem AtSM.atSW {w : World} {a : Option Addr} {ss : List Tab} (h : AtSM w a ss) : AtSW w a ss := by
  rcases h with h | ⟨b, off, rfl, hc⟩
  · exact .inl h
  · refine .inr ⟨b, off, rfl, fun i hi => ?_⟩
    obtain ⟨a', c', h1, h2, h3, _, h4⟩ := hc i hi
    exact ⟨a', c', h1, h2, h3, h4.atW⟩

/-- How many marks the first k tables take: one for the columns, and those of the rows. -/
def stot (ss : List Tab) (k : Nat) : Nat := ((ss.take k).map fun t => wtot t.2 t.2.length + 1).sum
theorem stot_zero (ss : List Tab) : stot ss 0 = 0 := rfl
theorem stot_succ (ss : List Tab) (k : Nat) (h : k < ss.length) : stot ss (k + 1) = stot ss k + (wtot (tat ss k).2 (tat ss k).2.length + 1) := by
  unfold stot
  rw [List.take_succ_eq_append_getElem h, List.map_append, List.sum_append]
  simp only [List.map_cons, List.map_nil, List.sum_cons, List.sum_nil, Nat.add_zero]
  simp [h]
theorem stot_grow (ss : List Tab) (j d : Nat) (h : j + d ≤ ss.length) : stot ss j + d ≤ stot ss (j + d) := by
  induction d with
  | zero => exact Nat.le_refl _
  | succ d ih => rw [show j + (d + 1) = (j + d) + 1 from rfl, stot_succ ss _ (by omega)]; have := ih (by omega); omega
theorem stot_mono (ss : List Tab) (j k : Nat) (h : j ≤ k) (hk : k ≤ ss.length) : stot ss j + (k - j) ≤ stot ss k := by
  have := stot_grow ss j (k - j) (by omega)
  rwa [show j + (k - j) = k by omega] at this
theorem stot_len (ss : List Tab) (k : Nat) (h : k ≤ ss.length) : k ≤ stot ss k := by have := stot_mono ss 0 k (by omega) h; rw [stot_zero] at this; omega
theorem stot_each (ss : List Tab) (n : Nat) (hn : ss.length = n) (i : Nat) (hi : i < n) : wtot (tat ss i).2 (tat ss i).2.length + 1 ≤ stot ss n := by
  have h1 := stot_succ ss i (by omega)
  have h2 := stot_mono ss (i + 1) n (by omega) (by omega)
  omega

/-- A list of tables that the laws' bound allows. -/
def SmU (ss : List Tab) (n : Nat) : Prop := ss.length = n ∧ stot ss n ≤ 1048576
theorem SmU.n {ss : List Tab} {n : Nat} (h : SmU ss n) : n ≤ 1048576 := by have := stot_len ss n (by have := h.1; omega); have := h.2; omega
theorem SmU.tab {ss : List Tab} {n : Nat} (h : SmU ss n) (i : Nat) (hi : i < n) : SmT (tat ss i).2 (tat ss i).2.length := ⟨rfl, by have := stot_each ss n h.1 i hi; have := h.2; omega⟩

section
variable {w w' : World} {lo hi : Nat} {a : Option Addr} {n c : Nat} {ts : List WRow}
theorem OwnT.kept {row : Option Nat} (h : OwnT w lo hi a n c ts) (hg : w.grownBy w' row) (hr : ∀ k, row = some k → k < lo ∨ hi ≤ k) : OwnT w' lo hi a n c ts := by obtain ⟨cs, h⟩ := h; exact ⟨cs, OwnWk.kept h hg hr⟩
theorem OwnT.setCell {a0 : Addr} (h : OwnT w lo hi a n c ts) (ha : a0.block < lo ∨ hi ≤ a0.block) (v : Value) : OwnT (w.setCell a0 v) lo hi a n c ts := by obtain ⟨cs, h⟩ := h; exact ⟨cs, OwnWk.setCell h ha v⟩
theorem OwnT.widen {lo' hi' : Nat} (h : OwnT w lo hi a n c ts) (h1 : lo' ≤ lo) (h2 : hi ≤ hi') (h3 : hi' ≤ w.heap.size) : OwnT w lo' hi' a n c ts := by obtain ⟨cs, h⟩ := h; exact ⟨cs, OwnWk.widen h h1 h2 h3⟩
theorem OwnT.top (h : OwnT w lo hi a n c ts) : hi ≤ w.heap.size := by obtain ⟨cs, h⟩ := h; exact h.top
end

/-- A slice of tables that the call itself made, its first k tables laid: each table's blocks lie from L i on and below H i, none among another one's. -/
structure OwnUk (w : World) (lo hi : Nat) (a : Option Addr) (n c : Nat) (ss : List Tab) (cells : List Value) (L H : Nat → Nat) (k : Nat) : Prop where
  len : ss.length = n
  top : hi ≤ w.heap.size
  outer : w.ownsRow lo 32 2 (.slice a n c) n cells
  outerLt : ∀ b, (Value.slice a n c).ownBlock = some b → b < hi
  row : ∀ i, i < k → ∃ a' c', cells[i * 2]? = some (.int .i64 (tat ss i).1) ∧ cells[i * 2 + 1]? = some (.slice a' (tat ss i).2.length c') ∧ OwnT w (L i) (H i) a' (tat ss i).2.length c' (tat ss i).2
  within : ∀ i, i < k → lo ≤ L i ∧ H i ≤ hi
  out : ∀ i, i < k → ∀ b, (Value.slice a n c).ownBlock = some b → b < L i ∨ H i ≤ b
  apart : ∀ i j, i < k → j < k → i ≠ j → H i ≤ L j ∨ H j ≤ L i
def OwnU (w : World) (lo hi : Nat) (a : Option Addr) (n c : Nat) (ss : List Tab) : Prop := ∃ cells L H, OwnUk w lo hi a n c ss cells L H n

section
variable {w w' : World} {lo hi : Nat} {a : Option Addr} {n c k : Nat} {ss : List Tab} {cells : List Value} {L H : Nat → Nat}

theorem OwnUk.below (h : OwnUk w lo hi a n c ss cells L H k) (hb : Below w.heap.size w w') : OwnUk w' lo hi a n c ss cells L H k :=
  ⟨h.len, Nat.le_trans h.top hb.size, owns_below h.outer hb, h.outerLt, fun i hi => by obtain ⟨a', c', h1, h2, h3⟩ := h.row i hi; exact ⟨a', c', h1, h2, h3.below hb⟩, h.within, h.out, h.apart⟩
theorem OwnUk.widen {lo' hi' : Nat} (h : OwnUk w lo hi a n c ss cells L H k) (h1 : lo' ≤ lo) (h2 : hi ≤ hi') (h3 : hi' ≤ w.heap.size) : OwnUk w lo' hi' a n c ss cells L H k :=
  ⟨h.len, h3, owns_mono h.outer h1, fun b hb => Nat.lt_of_lt_of_le (h.outerLt b hb) h2, h.row, fun i hi => by have := h.within i hi; omega, h.out, h.apart⟩
theorem OwnUk.blocks (h : OwnUk w lo hi a n c ss cells L H k) : ∀ b, (Value.slice a n c).ownBlock = some b → lo ≤ b ∧ b < hi := fun b hb => ⟨(h.outer.lt b hb).1, h.outerLt b hb⟩
theorem OwnUk.apartW {lo' hi' : Nat} (h : OwnUk w lo hi a n c ss cells L H k) (hp : Apart lo' hi' w w') (hd : hi ≤ lo' ∨ hi' ≤ lo) : OwnUk w' lo hi a n c ss cells L H k := by
  have hB := h.blocks
  refine ⟨h.len, Nat.le_trans h.top hp.size, hp.owns h.outer (fun k hk => by have := hB k hk; omega), h.outerLt, fun i hi => ?_, h.within, h.out, h.apart⟩
  obtain ⟨a', c', k1, k2, k3⟩ := h.row i hi
  have := h.within i hi
  exact ⟨a', c', k1, k2, k3.apartW hp (by omega)⟩
theorem OwnUk.kept {row : Option Nat} (h : OwnUk w lo hi a n c ss cells L H k) (hg : w.grownBy w' row) (hr : ∀ k, row = some k → k < lo ∨ hi ≤ k) : OwnUk w' lo hi a n c ss cells L H k := by
  have hB := h.blocks
  refine ⟨h.len, Nat.le_trans h.top hg.size, h.outer.kept hg ?_, h.outerLt, fun i hi => ?_, h.within, h.out, h.apart⟩
  · cases hv : (Value.slice a n c).ownBlock with
    | none => exact .inl rfl
    | some k => exact .inr (fun e => by have := hr k e.symm; have := hB k hv; omega)
  · obtain ⟨a', c', k1, k2, k3⟩ := h.row i hi
    have := h.within i hi
    exact ⟨a', c', k1, k2, k3.kept hg (fun b hb => by have := hr b hb; omega)⟩
theorem OwnUk.setCell {a0 : Addr} (h : OwnUk w lo hi a n c ss cells L H k) (ha : a0.block < lo ∨ hi ≤ a0.block) (v : Value) : OwnUk (w.setCell a0 v) lo hi a n c ss cells L H k :=
  h.kept (row := some a0.block) ⟨rfl, rfl, rfl, by simp [World.setCell], fun k _ hn => Below.heap_setCell w a0 v k (fun e => hn (by rw [e]))⟩ (fun k hk => by simp at hk; omega)

theorem OwnUk.start (hl : ss.length = n) (hh : hi ≤ w.heap.size) (ho : w.ownsRow lo 32 2 (.slice a n c) n cells) (hb : ∀ b, (Value.slice a n c).ownBlock = some b → b < hi) : OwnUk w lo hi a n c ss cells L H 0 :=
  ⟨hl, hh, ho, hb, fun i h => by omega, fun i h => by omega, fun i h => by omega, fun i j h => by omega⟩

theorem OwnUk.atSM (h : OwnUk w lo hi a n c ss cells L H n) (hs : SmU ss n) : AtSM w a ss := by
  rcases h.outer.2 with ⟨hv, h0⟩ | ⟨g, cap, cur, hv, _⟩
  · left
    have := h.len
    rw [h0] at this
    exact List.eq_nil_of_length_eq_zero this
  · simp only [Value.slice.injEq, true_and] at hv
    obtain ⟨rfl, rfl⟩ := hv
    refine .inr ⟨g, 0, rfl, fun i hi => ?_⟩
    rw [h.len] at hi
    obtain ⟨a', c', k1, k2, k3⟩ := h.row i hi
    have hl := h.outer.1
    have ht := hs.tab i hi
    refine ⟨a', c', ?_, ?_, by have := ht.n; omega, k3.formed, k3.atM ht⟩
    · rw [Nat.zero_add, h.outer.cellAt _ (by omega)]; exact k1
    · rw [Nat.zero_add, h.outer.cellAt _ (by omega)]; exact k2

/-- One more table is laid. -/
theorem OwnUk.put {w2 : World} {g m c' : Nat} {a' : Option Addr} {p : Int} (h : OwnUk w lo hi (some ⟨g, 0, none⟩) n c ss cells L H k) (hb : Below w.heap.size w w2) (hk : k < n)
    (hm : (tat ss k).2.length = m) (hx : (tat ss k).1 = p) (hlo : lo ≤ w.heap.size) (hrow : OwnT w2 w.heap.size w2.heap.size a' m c' (tat ss k).2) :
    OwnUk ((w2.setCell ⟨g, k * 2, none⟩ (.int .i64 p)).setCell ⟨g, k * 2 + 1, none⟩ (.slice a' m c')) lo w2.heap.size (some ⟨g, 0, none⟩) n c ss ((cells.set (k * 2) (.int .i64 p)).set (k * 2 + 1) (.slice a' m c'))
      (fun i => if i < k then L i else w.heap.size) (fun i => if i < k then H i else w2.heap.size) (k + 1) := by
  have h2 := h.below hb
  have hz := hb.size
  have hgl : lo ≤ g ∧ g < hi := h.blocks g rfl
  have htop := h.top
  have hl := h.outer.1
  have hset : ∀ i, i < k → ∀ d, d < 2 → ((cells.set (k * 2) (.int .i64 p)).set (k * 2 + 1) (.slice a' m c'))[i * 2 + d]? = cells[i * 2 + d]? := fun i hi d hd => by
    rw [List.getElem?_set_ne (by omega), List.getElem?_set_ne (by omega)]
  refine ⟨h.len, by simp [World.setCell], owns_two h2.outer _ _ _ _, fun b hb' => ?_, fun i hi => ?_, fun i hi => ?_, fun i hi b hb' => ?_, fun i j hi hj hij => ?_⟩
  · have := h.outerLt b hb'
    omega
  · by_cases e : i = k
    · subst e
      refine ⟨a', c', ?_, ?_, ?_⟩
      · rw [List.getElem?_set_ne (by omega), List.getElem?_set_self (by omega), hx]
      · rw [hm, List.getElem?_set_self (by simp; omega)]
      · simp only [Nat.lt_irrefl, if_false]
        rw [hm]
        exact (hrow.setCell (a0 := ⟨g, i * 2, none⟩) (.inl (by show g < _; omega)) _).setCell (a0 := ⟨g, i * 2 + 1, none⟩) (.inl (by show g < _; omega)) _
    · have hi' : i < k := by omega
      obtain ⟨a1, c1, k1, k2, k3⟩ := h2.row i hi'
      have ho := h2.out i hi' g rfl
      have e0 := hset i hi' 0 (by omega)
      have e1 := hset i hi' 1 (by omega)
      simp only [Nat.add_zero] at e0
      simp only [if_pos hi']
      exact ⟨a1, c1, by rw [e0]; exact k1, by rw [e1]; exact k2, (k3.setCell (a0 := ⟨g, k * 2, none⟩) ho _).setCell (a0 := ⟨g, k * 2 + 1, none⟩) ho _⟩
  · by_cases e : i = k
    · subst e; simp only [Nat.lt_irrefl, if_false]; omega
    · simp only [if_pos (show i < k by omega)]
      have := h.within i (by omega)
      omega
  · have hgb : g = b := by simpa [Value.ownBlock] using hb'
    by_cases e : i = k
    · subst e; simp only [Nat.lt_irrefl, if_false]; omega
    · simp only [if_pos (show i < k by omega)]
      exact h.out i (by omega) b hb'
  · by_cases e : i = k
    · subst e
      simp only [Nat.lt_irrefl, if_false, if_pos (show j < i by omega)]
      have := h.within j (by omega)
      omega
    · simp only [if_pos (show i < k by omega)]
      by_cases e2 : j = k
      · subst e2
        simp only [Nat.lt_irrefl, if_false]
        have := h.within i (by omega)
        omega
      · simp only [if_pos (show j < k by omega)]
        exact h.apart i j (by omega) (by omega) hij

/-- One more table at the slice's end. -/
theorem OwnUk.pushed {w2 w3 w4 : World} {m c' g cap : Nat} {a' : Option Addr} {p : Int} {ts : List WRow} (h : OwnUk w lo hi a n c ss cells L H n) (hlo : lo ≤ w.heap.size) (hb : Below w.heap.size w w2)
    (hm : ts.length = m) (hrow : OwnT w2 w.heap.size w2.heap.size a' m c' ts) (hb3 : Below w2.heap.size w2 w3)
    (hown : w4.ownsRow lo 32 2 (.slice (some ⟨g, 0, none⟩) (n + 1) cap) (n + 1) (cells ++ [.int .i64 p, .slice a' m c'])) (hgr : w3.grownBy w4 (Value.slice a n c).ownBlock)
    (hat : (Value.slice a n c).ownBlock = some g ∨ w2.heap.size ≤ g) (hlt : g < w4.heap.size) :
    OwnUk w4 lo w4.heap.size (some ⟨g, 0, none⟩) (n + 1) cap (ss ++ [(p, ts)]) (cells ++ [.int .i64 p, .slice a' m c']) (fun i => if i < n then L i else w.heap.size) (fun i => if i < n then H i else w2.heap.size) (n + 1) := by
  have hz := h.len
  have hl := h.outer.1
  have hz2 := hb.size
  have hz3 := hb3.size
  have hz4 := hgr.size
  have htop := h.top
  have hL : ∀ i, i < n → (cells ++ [.int .i64 p, .slice a' m c'])[i * 2]? = cells[i * 2]? ∧ (cells ++ [.int .i64 p, .slice a' m c'])[i * 2 + 1]? = cells[i * 2 + 1]? := fun i hi =>
    ⟨List.getElem?_append_left (by omega), List.getElem?_append_left (by omega)⟩
  have hN0 : (cells ++ [.int .i64 p, .slice a' m c'])[n * 2]? = some (.int .i64 p) := by
    rw [List.getElem?_append_right (by omega), show n * 2 - cells.length = 0 by omega]; rfl
  have hN1 : (cells ++ [.int .i64 p, .slice a' m c'])[n * 2 + 1]? = some (.slice a' m c') := by
    rw [List.getElem?_append_right (by omega), show n * 2 + 1 - cells.length = 1 by omega]; rfl
  have hB := h.blocks
  refine ⟨by simp [hz], Nat.le_refl _, hown, fun b hb' => by simp [Value.ownBlock] at hb'; omega, fun i hi => ?_, fun i hi => ?_, fun i hi b hb' => ?_, fun i j hi hj hij => ?_⟩
  · by_cases e : i = n
    · subst e
      rw [show tat (ss ++ [(p, ts)]) i = (p, ts) by rw [← hz]; exact tat_last ss _]
      simp only [Nat.lt_irrefl, if_false, hm]
      exact ⟨a', c', hN0, hN1, (hrow.below hb3).kept hgr (fun b hb' => by have := hB b hb'; omega)⟩
    · have hi' : i < n := by omega
      obtain ⟨a1, c1, k1, k2, k3⟩ := h.row i hi'
      rw [tat_left (by omega)]
      simp only [if_pos hi']
      exact ⟨a1, c1, by rw [(hL i hi').1]; exact k1, by rw [(hL i hi').2]; exact k2, ((k3.below hb).below hb3).kept hgr (h.out i hi')⟩
  · by_cases e : i = n
    · subst e; simp only [Nat.lt_irrefl, if_false]; omega
    · simp only [if_pos (show i < n by omega)]
      have := h.within i (by omega)
      omega
  · have hgb : g = b := by simpa [Value.ownBlock] using hb'
    subst hgb
    by_cases e : i = n
    · subst e
      simp only [Nat.lt_irrefl, if_false]
      rcases hat with h' | h'
      · have := hB g h'; omega
      · omega
    · simp only [if_pos (show i < n by omega)]
      have := h.within i (by omega)
      rcases hat with h' | h'
      · exact h.out i (by omega) g h'
      · omega
  · by_cases e : i = n
    · subst e
      simp only [Nat.lt_irrefl, if_false, if_pos (show j < i by omega)]
      have := h.within j (by omega)
      omega
    · simp only [if_pos (show i < n by omega)]
      by_cases e2 : j = n
      · subst e2
        simp only [Nat.lt_irrefl, if_false]
        have := h.within i (by omega)
        omega
      · simp only [if_pos (show j < n by omega)]
        exact h.apart i j (by omega) (by omega) hij
end

theorem Apart.widen {lo hi lo' hi' : Nat} {w w' : World} (h : Apart lo hi w w') (h1 : lo' ≤ lo) (h2 : hi ≤ hi') : Apart lo' hi' w w' := ⟨h.os, h.tape, h.output, h.size, fun k hk hd => h.block k hk (by omega)⟩

/-- The first k tables as the laws mark them, the others as they were. -/
def mixU (m : Int) (ss : List Tab) (k : Nat) : List Tab := (List.range ss.length).map fun i => if i < k then (m + stot ss i, markW (m + stot ss i + 1) (tat ss i).2) else tat ss i
/-- The tables as the laws mark them, from m on. -/
def markU (m : Int) (ss : List Tab) : List Tab := (List.range ss.length).map fun i => (m + stot ss i, markW (m + stot ss i + 1) (tat ss i).2)
theorem markU_at (m : Int) (ss : List Tab) (i : Nat) (h : i < ss.length) : tat (markU m ss) i = (m + stot ss i, markW (m + stot ss i + 1) (tat ss i).2) := by simp [markU, h]
theorem mixU_length (m : Int) (ss : List Tab) (k : Nat) : (mixU m ss k).length = ss.length := by simp [mixU]
theorem mixU_at (m : Int) (ss : List Tab) (k i : Nat) (h : i < ss.length) : tat (mixU m ss k) i = if i < k then (m + stot ss i, markW (m + stot ss i + 1) (tat ss i).2) else tat ss i := by simp [mixU, h]
theorem mixU_zero (m : Int) (ss : List Tab) : mixU m ss 0 = ss := by
  apply List.ext_getElem?
  intro i
  by_cases h : i < ss.length
  · simp [mixU, h]
  · simp [mixU, h]
theorem mixU_all (m : Int) (ss : List Tab) : mixU m ss ss.length = markU m ss := by
  unfold mixU markU
  exact List.map_congr_left fun i hi => if_pos (List.mem_range.1 hi)

theorem OwnUk.marked {w w2 : World} {lo hi : Nat} {g n c k l : Nat} {ss : List Tab} {cells : List Value} {L H : Nat → Nat} {m v : Int} {a' : Option Addr} {c' : Nat} (h : OwnUk w lo hi (some ⟨g, 0, none⟩) n c (mixU m ss k) cells L H n) (hz : ss.length = n) (hk : k < n)
    (hl : (tat ss k).2.length = l) (hv : m + stot ss k = v) (hcell : cells[k * 2 + 1]? = some (.slice a' l c')) (hrow : OwnT w2 (L k) (H k) a' l c' (markW (v + 1) (tat ss k).2)) (hg : Apart (L k) (H k) (w.setCell ⟨g, k * 2, none⟩ (.int .i64 v)) w2) :
    OwnUk w2 lo hi (some ⟨g, 0, none⟩) n c (mixU m ss (k + 1)) (cells.set (k * 2) (.int .i64 v)) L H n := by
  have hl2 := h.outer.1
  have hgk := h.out k hk g rfl
  have hw := h.within
  have ho1 : (w.setCell ⟨g, k * 2, none⟩ (.int .i64 v)).ownsRow lo 32 2 (.slice (some ⟨g, 0, none⟩) n c) n (cells.set (k * 2) (.int .i64 v)) := (h.outer.stored _ _).1
  refine ⟨by rw [mixU_length]; exact hz, by have := h.top; have := hg.size; simp [World.setCell] at this; omega, hg.owns ho1 (fun b hb => ?_), h.outerLt, fun i hi => ?_, h.within, h.out, h.apart⟩
  · have hgb : g = b := by simpa [Value.ownBlock] using hb
    omega
  · by_cases e : i = k
    · subst e
      rw [mixU_at m ss (i + 1) i (by omega), if_pos (by omega)]
      refine ⟨a', c', ?_, ?_, ?_⟩
      · rw [List.getElem?_set_self (by omega), hv]
      · rw [List.getElem?_set_ne (by omega)]; simp only [markW_length, hl]; exact hcell
      · simp only [markW_length, hl]; rw [hv]; exact hrow
    · obtain ⟨a1, c1, k1, k2, k3⟩ := h.row i hi
      have hm1 : tat (mixU m ss (k + 1)) i = tat (mixU m ss k) i := by
        rw [mixU_at m ss (k + 1) i (by omega), mixU_at m ss k i (by omega)]
        by_cases e1 : i < k
        · rw [if_pos e1, if_pos (by omega)]
        · rw [if_neg e1, if_neg (by omega)]
      rw [hm1]
      have hoi := h.out i hi g rfl
      have hap := h.apart i k hi hk e
      exact ⟨a1, c1, by rw [List.getElem?_set_ne (by omega)]; exact k1, by rw [List.getElem?_set_ne (by omega)]; exact k2, (k3.setCell (a0 := ⟨g, k * 2, none⟩) hoi _).apartW hg hap⟩

section
variable {w w' : World} {lo hi : Nat} {a : Option Addr} {n c : Nat} {ss : List Tab}
theorem OwnU.below (h : OwnU w lo hi a n c ss) (hb : Below w.heap.size w w') : OwnU w' lo hi a n c ss := by obtain ⟨cs, L, H, h⟩ := h; exact ⟨cs, L, H, h.below hb⟩
theorem OwnU.apartW {lo' hi' : Nat} (h : OwnU w lo hi a n c ss) (hp : Apart lo' hi' w w') (hd : hi ≤ lo' ∨ hi' ≤ lo) : OwnU w' lo hi a n c ss := by obtain ⟨cs, L, H, h⟩ := h; exact ⟨cs, L, H, h.apartW hp hd⟩
theorem OwnU.atM (h : OwnU w lo hi a n c ss) (hs : SmU ss n) : AtSM w a ss := by obtain ⟨cs, L, H, h⟩ := h; exact h.atSM hs
theorem OwnU.atSW (h : OwnU w lo hi a n c ss) (hs : SmU ss n) : AtSW w a ss := (h.atM hs).atSW
theorem OwnU.len (h : OwnU w lo hi a n c ss) : ss.length = n := by obtain ⟨cs, L, H, h⟩ := h; exact h.len
theorem OwnU.widen {lo' hi' : Nat} (h : OwnU w lo hi a n c ss) (h1 : lo' ≤ lo) (h2 : hi ≤ hi') (h3 : hi' ≤ w.heap.size) : OwnU w lo' hi' a n c ss := by obtain ⟨cs, L, H, h⟩ := h; exact ⟨cs, L, H, h.widen h1 h2 h3⟩
theorem OwnU.setCell {a0 : Addr} (h : OwnU w lo hi a n c ss) (ha : a0.block < lo ∨ hi ≤ a0.block) (v : Value) : OwnU (w.setCell a0 v) lo hi a n c ss := by obtain ⟨cs, L, H, h⟩ := h; exact ⟨cs, L, H, h.setCell ha v⟩
theorem OwnU.atMark {m : Int} (h : OwnU w lo hi a n c (markU m ss)) (hs : SmU ss n) : AtSW w a (markU m ss) := by
  obtain ⟨cells, L, H, h⟩ := h
  rcases h.outer.2 with ⟨hv, h0⟩ | ⟨g, cap, cur, hv, _⟩
  · left
    have := h.len
    rw [h0] at this
    exact List.eq_nil_of_length_eq_zero this
  · simp only [Value.slice.injEq, true_and] at hv
    obtain ⟨rfl, rfl⟩ := hv
    refine .inr ⟨g, 0, rfl, fun i hi => ?_⟩
    rw [h.len] at hi
    obtain ⟨a', c', k1, k2, k3⟩ := h.row i hi
    have hl := h.outer.1
    have ht := hs.tab i hi
    rw [markU_at m ss i (by rw [hs.1]; exact hi)] at k1 k2 k3 ⊢
    refine ⟨a', c', ?_, ?_, by simp only [markW_length]; have := ht.n; omega, ?_⟩
    · rw [Nat.zero_add, h.outer.cellAt _ (by omega)]; exact k1
    · rw [Nat.zero_add, h.outer.cellAt _ (by omega)]; exact k2
    · simp only [markW_length] at k3
      exact k3.atMark ht
theorem OwnU.nil (w : World) (lo : Nat) : OwnU w lo w.heap.size none 0 0 [] := ⟨[], fun _ => 0, fun _ => 0, OwnUk.start rfl (Nat.le_refl _) (World.ownsRow_nil _ _ _ _) (fun b hb => by cases hb)⟩
end

end Go.Proofs.YthiabjkjpjmahaaGreat

/- What a function answers that tells tables. -/
namespace Go.Proofs.YthiabjkjpjmahaaGreat
open Go.RowKit

def ansS (ok : Bool) (ss : List Tab) : List Tab := if ok then ss else []
def TbsRet (e : Ending) (w' : World) (lo : Nat) (ok : Bool) (ss : List Tab) : Prop := ∃ r m d, e = .returned (.tuple #[.slice r m d, .bool ok]) ∧ OwnU w' lo w'.heap.size r m d ss
theorem TbsRet.zero {w' : World} {lo : Nat} {ok : Bool} {ss : List Tab} (h : ok = false) : TbsRet (.returned (.tuple #[.slice none 0 0, .bool false])) w' lo ok (ansS ok ss) := by
  subst h
  exact ⟨none, 0, 0, rfl, OwnU.nil _ _⟩

end Go.Proofs.YthiabjkjpjmahaaGreat

/- Plain: the tables of a view's parts. -/
namespace Go.Proofs.YthiabjkjpjmahaaGreat
open Go.RowKit

/-- A table with its weights turned, as NegateTable tells it. -/
def lessP (t : Tab) : Int := ansP (scaleB t.1 t.2 (-1)) t.1
def lessT (t : Tab) : List WRow := ansT (scaleB t.1 t.2 (-1)) (scaleW t.2 (-1))
/-- Whether a part has a table, its columns and its rows. -/
def tabB (src ah : List Tab) (x : PartD) : Bool :=
  if x.K = 1 then scaleB (tat src x.A.toNat).1 (tat src x.A.toNat).2 1
  else if x.K = 2 then selB (tat ah x.A.toNat).1 (tat ah x.A.toNat).2 x.ts
  else if x.K = 3 then projB (tat ah x.A.toNat).1 (tat ah x.A.toNat).2 x.cs
  else if x.K = 4 then joinB (tat ah x.A.toNat).1 (tat ah x.B.toNat).1 (tat ah x.A.toNat).2 (tat ah x.B.toNat).2 x.ps
  else if x.K = 5 then addB (tat ah x.A.toNat).1 (tat ah x.A.toNat).2 (tat ah x.B.toNat).1 (tat ah x.B.toNat).2
  else if x.K = 6 then addB (tat ah x.A.toNat).1 (tat ah x.A.toNat).2 (lessP (tat ah x.B.toNat)) (lessT (tat ah x.B.toNat))
  else distB (tat ah x.A.toNat).1 (tat ah x.A.toNat).2
def tabC (src ah : List Tab) (x : PartD) : Int :=
  if x.K = 1 then (tat src x.A.toNat).1
  else if x.K = 3 then (x.cs.length : Int)
  else if x.K = 4 then (joinC (tat ah x.A.toNat).1 (tat ah x.B.toNat).1 x.ps : Int)
  else (tat ah x.A.toNat).1
def tabW (src ah : List Tab) (x : PartD) : List WRow :=
  if x.K = 1 then scaleW (tat src x.A.toNat).2 1
  else if x.K = 2 then selW (tat ah x.A.toNat).2 x.ts
  else if x.K = 3 then projW (tat ah x.A.toNat).2 x.cs
  else if x.K = 4 then joinW (tat ah x.A.toNat).2 (tat ah x.B.toNat).2 x.ps
  else if x.K = 5 then putAll (tat ah x.A.toNat).2 (tat ah x.B.toNat).2
  else if x.K = 6 then putAll (tat ah x.A.toNat).2 (lessT (tat ah x.B.toNat))
  else distW (tat ah x.A.toNat).2
theorem tab_good {src ah : List Tab} {x : PartD} (h : tabB src ah x = true) : goodT (tabC src ah x) (tabW src ah x) = true := by
  by_cases k1 : x.K = 1
  · simp only [tabB, tabC, tabW, if_pos k1] at h ⊢
    simp only [scaleB, Bool.and_eq_true] at h
    exact h.2.2
  by_cases k2 : x.K = 2
  · simp only [tabB, tabC, tabW, k2, if_neg (show ¬ ((2 : Int) = 1) by decide), if_neg (show ¬ ((2 : Int) = 3) by decide), if_neg (show ¬ ((2 : Int) = 4) by decide), if_true] at h ⊢
    exact selB_goodT h
  by_cases k3 : x.K = 3
  · simp only [tabB, tabC, tabW, k3, if_neg (show ¬ ((3 : Int) = 1) by decide), if_neg (show ¬ ((3 : Int) = 2) by decide), if_true] at h ⊢
    exact projB_goodT h
  by_cases k4 : x.K = 4
  · simp only [tabB, tabC, tabW, k4, if_neg (show ¬ ((4 : Int) = 1) by decide), if_neg (show ¬ ((4 : Int) = 2) by decide), if_neg (show ¬ ((4 : Int) = 3) by decide), if_true] at h ⊢
    simp only [joinB, Bool.and_eq_true] at h
    exact h.2.2.2.2
  by_cases k5 : x.K = 5
  · simp only [tabB, tabC, tabW, if_neg k1, if_neg k2, if_neg k3, if_neg k4, if_pos k5] at h ⊢
    simp only [addB, Bool.and_eq_true] at h
    exact h.2
  by_cases k6 : x.K = 6
  · simp only [tabB, tabC, tabW, if_neg k1, if_neg k2, if_neg k3, if_neg k4, if_neg k5, if_pos k6] at h ⊢
    simp only [addB, Bool.and_eq_true] at h
    exact h.2
  · simp only [tabB, tabC, tabW, if_neg k1, if_neg k2, if_neg k3, if_neg k4, if_neg k5, if_neg k6] at h ⊢
    simp only [distB, Bool.and_eq_true] at h
    exact h.2

/-- The tables of the first k parts. -/
def runTo (src : List Tab) (xs : List PartD) : Nat → Option (List Tab)
  | 0 => some []
  | k + 1 => (runTo src xs k).bind fun ah => (xs[k]?).bind fun x => if tabB src ah x = true then some (ah ++ [(tabC src ah x, tabW src ah x)]) else none
theorem runTo_yes {src : List Tab} {xs : List PartD} {k : Nat} {ah : List Tab} {x : PartD} (h : runTo src xs k = some ah) (hx : xs[k]? = some x) (hb : tabB src ah x = true) : runTo src xs (k + 1) = some (ah ++ [(tabC src ah x, tabW src ah x)]) := by
  rw [runTo, h, Option.bind_some, hx, Option.bind_some, if_pos hb]
theorem runTo_no {src : List Tab} {xs : List PartD} {k : Nat} {ah : List Tab} {x : PartD} (h : runTo src xs k = some ah) (hx : xs[k]? = some x) (hb : tabB src ah x = false) : runTo src xs (k + 1) = none := by
  rw [runTo, h, Option.bind_some, hx, Option.bind_some, hb]; rfl
theorem runTo_none {src : List Tab} {xs : List PartD} {k : Nat} (h : runTo src xs k = none) : ∀ {n : Nat}, k ≤ n → runTo src xs n = none
  | 0, hn => by obtain rfl : k = 0 := by omega
                exact h
  | n + 1, hn => by
    by_cases e : k = n + 1
    · rw [← e]; exact h
    · rw [runTo, runTo_none h (n := n) (by omega)]; rfl
theorem runTo_some {src : List Tab} {xs : List PartD} : ∀ {k : Nat} {ah : List Tab}, runTo src xs k = some ah → ah.length = k ∧ ∀ t ∈ ah, goodT t.1 t.2 = true
  | 0, ah, h => by
    cases h
    exact ⟨rfl, fun t ht => by cases ht⟩
  | k + 1, ah, h => by
    rw [runTo, Option.bind_eq_some_iff] at h
    obtain ⟨a, h1, h2⟩ := h
    rw [Option.bind_eq_some_iff] at h2
    obtain ⟨x, h3, h4⟩ := h2
    split at h4
    · rename_i hb
      cases h4
      obtain ⟨i1, i2⟩ := runTo_some h1
      refine ⟨by simp [i1], fun t ht => ?_⟩
      rw [List.mem_append] at ht
      rcases ht with ht | ht
      · exact i2 t ht
      · rw [List.mem_singleton] at ht
        rw [ht]
        exact tab_good hb
    · cases h4

theorem stot_leR {ss : List Tab} {M : Nat} (h : ∀ i, i < ss.length → wtot (tat ss i).2 (tat ss i).2.length ≤ M) : ∀ k, k ≤ ss.length → stot ss k ≤ k * (M + 1) := by
  intro k hk
  induction k with
  | zero => simp [stot_zero]
  | succ k ih =>
    have h1 := ih (by omega)
    have h2 := h k (by omega)
    rw [stot_succ ss k (by omega), Nat.add_mul]
    omega
theorem goodT_w420R {p : Int} {ts : List WRow} (h : goodT p ts = true) : wtot ts ts.length ≤ 420 := by
  have h1 := wtot_le (M := 6) (fun t ht => good_len (goodL_mem (goodL_of_goodT h) t ht).1) ts.length (Nat.le_refl _)
  have h2 := (goodT_parts h).2.1
  omega
theorem small_tabs {ss : List Tab} {n : Nat} (hn : ss.length = n) (h12 : n ≤ 12) (h : ∀ t ∈ ss, goodT t.1 t.2 = true) : SmU ss n := by
  subst hn
  refine ⟨rfl, ?_⟩
  have := stot_leR (M := 420) (fun i hi => goodT_w420R (h _ (tat_mem hi))) ss.length (Nat.le_refl _)
  omega

/-- The sources suit. -/
def suit1 (l : List Tab) (ss : List Int) (i : Nat) : Bool := decide ((tat l i).1 = ss.getD i 0) && goodT (tat l i).1 (tat l i).2
def suitTo (l : List Tab) (ss : List Int) (k : Nat) : Bool := (List.range k).all (suit1 l ss)
def suitB (l : List Tab) (ss : List Int) : Bool := decide (l.length = ss.length) && suitTo l ss l.length
theorem suitTo_succ (l : List Tab) (ss : List Int) (k : Nat) : suitTo l ss (k + 1) = (suitTo l ss k && suit1 l ss k) := by unfold suitTo; rw [List.range_succ, List.all_append]; simp
theorem suitTo_no {l : List Tab} {ss : List Int} {k n : Nat} (hk : k < n) (h : suit1 l ss k = false) : suitTo l ss n = false := by
  cases e : suitTo l ss n with
  | false => rfl
  | true =>
    unfold suitTo at e
    rw [List.all_eq_true] at e
    rw [e k (List.mem_range.2 hk)] at h; exact h
theorem suitTo_at {l : List Tab} {ss : List Int} {k n : Nat} (h : suitTo l ss n = true) (hk : k < n) : suit1 l ss k = true := by
  unfold suitTo at h
  rw [List.all_eq_true] at h
  exact h k (List.mem_range.2 hk)

/-- What RunAll answers. -/
def raO (v : ViewD) (l : List Tab) : Option (List Tab) := if ckB v = true ∧ suitB l v.1 = true then runTo l v.2 v.2.length else none
def raB (v : ViewD) (l : List Tab) : Bool := (raO v l).isSome
def raL (v : ViewD) (l : List Tab) : List Tab := (raO v l).getD []
theorem ra_none {v : ViewD} {l : List Tab} (h : raO v l = none) : raB v l = false ∧ raL v l = [] := by simp [raB, raL, h]
theorem ra_some {v : ViewD} {l ah : List Tab} (h : raO v l = some ah) : raB v l = true ∧ raL v l = ah := by simp [raB, raL, h]

/-- What a part of a right view asks for lies ahead. -/
theorem widthP_there {ss ah : List Int} {x : PartD} {n : Int} (h : widthP ss ah x = some n) :
    (x.K = 1 → 0 ≤ x.A ∧ x.A < ss.length) ∧ (¬ x.K = 1 → 0 ≤ x.A ∧ x.A < ah.length) ∧ (x.K = 4 ∨ x.K = 5 ∨ x.K = 6 → 0 ≤ x.B ∧ x.B < ah.length) := by
  have H : ∀ {l : List Int} {i z : Int}, numAt l i = some z → 0 ≤ i ∧ i < l.length := fun h => by
    obtain ⟨k, h1, h2, _⟩ := numAt_some h
    omega
  by_cases k1 : x.K = 1
  · rw [widthP_1 k1] at h
    exact ⟨fun _ => H h, fun e => absurd k1 e, fun e => by omega⟩
  by_cases k2 : x.K = 2
  · rw [widthP_2 k2] at h
    obtain ⟨a, h1, _⟩ := Option.bind_eq_some_iff.1 h
    exact ⟨fun e => absurd e k1, fun _ => H h1, fun e => by omega⟩
  by_cases k3 : x.K = 3
  · rw [widthP_3 k3] at h
    obtain ⟨a, h1, _⟩ := Option.bind_eq_some_iff.1 h
    exact ⟨fun e => absurd e k1, fun _ => H h1, fun e => by omega⟩
  by_cases k4 : x.K = 4
  · rw [widthP_4 k4] at h
    obtain ⟨a, h1, h2⟩ := Option.bind_eq_some_iff.1 h
    obtain ⟨b, h3, _⟩ := Option.bind_eq_some_iff.1 h2
    exact ⟨fun e => absurd e k1, fun _ => H h1, fun _ => H h3⟩
  by_cases k56 : x.K = 5 ∨ x.K = 6
  · have h' : twoAt ah x.A x.B = some n := by
      rcases k56 with k | k
      · rw [widthP_5 k] at h; exact h
      · rw [widthP_6 k] at h; exact h
    obtain ⟨a, h1, h2⟩ := Option.bind_eq_some_iff.1 h'
    obtain ⟨b, h3, _⟩ := Option.bind_eq_some_iff.1 h2
    exact ⟨fun e => absurd e k1, fun _ => H h1, fun _ => H h3⟩
  by_cases k7 : x.K = 7
  · rw [widthP_7 k7] at h
    exact ⟨fun e => absurd e k1, fun _ => H h, fun e => by omega⟩
  · rw [widthP_no (by omega)] at h
    cases h
theorem partW_kind {ss ah : List Int} {x : PartD} {n : Int} (h : partW ss ah x = some n) : 1 ≤ x.K ∧ x.K ≤ 7 := by
  by_cases hk : 1 ≤ x.K ∧ x.K ≤ 7
  · exact hk
  · rw [partW_no (widthP_no hk)] at h; cases h
theorem checkTo_there {ss : List Int} {xs : List PartD} (hs : ss.all inc = true) : ∀ {n : Nat} {ah : List Int}, checkTo ss xs n = some ah → ∀ (i : Nat) (x : PartD), i < n → xs[i]? = some x →
    (1 ≤ x.K ∧ x.K ≤ 7) ∧ (x.K = 1 → 0 ≤ x.A ∧ x.A < ss.length) ∧ (¬ x.K = 1 → 0 ≤ x.A ∧ x.A < i) ∧ (x.K = 4 ∨ x.K = 5 ∨ x.K = 6 → 0 ≤ x.B ∧ x.B < i)
  | 0, ah, _, i, x, h, _ => by omega
  | n + 1, ah, h, i, x, hi, hx => by
    obtain ⟨a, h1, h2⟩ := Option.bind_eq_some_iff.1 h
    by_cases e : i < n
    · exact checkTo_there hs h1 i x e hx
    · obtain rfl : i = n := by omega
      obtain ⟨y, h3, h4⟩ := Option.bind_eq_some_iff.1 h2
      rw [hx] at h3
      cases h3
      obtain ⟨q, h5, _⟩ := Option.map_eq_some_iff.1 h4
      have hk := partW_kind h5
      unfold partW at h5
      split at h5
      · have := widthP_there h5
        rw [(checkTo_some hs h1).1] at this
        exact ⟨hk, this⟩
      · cases h5

end Go.Proofs.YthiabjkjpjmahaaGreat

/- A table that lies in a list of tables. -/
namespace Go.Proofs.YthiabjkjpjmahaaGreat
open Go.RowKit

/-- A table that lies in a list of tables. -/
theorem AtSM.at {w : World} {a : Option Addr} {ss : List Tab} {n j : Nat} (h : AtSM w a ss) (hn : ss.length = n) (hj : j < n) :
    ∃ b off a' c', a = Option.some ⟨b, off, none⟩ ∧ w.cell? ⟨b, off + j * 2, none⟩ = Option.some (.int .i64 (tat ss j).1) ∧ w.cell? ⟨b, off + j * 2 + 1, none⟩ = Option.some (.slice a' (tat ss j).2.length c') ∧ Formed a' (tat ss j).2.length c' ∧ AtM w a' (tat ss j).2 := by
  obtain ⟨b, off, rfl, hc⟩ := h.some (by omega)
  obtain ⟨a', c', h1, h2, _, h4, h5⟩ := hc j (by omega)
  exact ⟨b, off, a', c', rfl, h1, h2, h4, h5⟩

end Go.Proofs.YthiabjkjpjmahaaGreat
