/- Several texts of one proof, in build order: TbP, TtP, GroundU, TbsR. -/
import Derived.Test.YtipgepienagplaaM10
import Derived.Test.YtipgepienagplaaM21
import Derived.Test.YtipgepienagplaaM14
import Derived.Test.YtipgepienagplaaM18

/- Plain: good tableaus. -/
namespace Go.Proofs.Ytipgepienagplaa

def rowOk (C : Int) (z : List Int) : Bool := good z && decide ((z.length : Int) = C) && z.all (fun x => decide (0 ≤ x))
/-- A tableau of C columns that is good. -/
def tbB (C : Int) (zss : List (List Int)) : Bool := (decide (1 ≤ C) && decide (C ≤ 6)) && (decide (1 ≤ zss.length) && decide (zss.length ≤ 8)) && zss.all (rowOk C)

theorem rowOk_good {C : Int} {z : List Int} (h : rowOk C z = true) : good z = true := by simp [rowOk] at h; exact h.1.1
theorem rowOk_len {C : Int} {z : List Int} (h : rowOk C z = true) : (z.length : Int) = C := by simp [rowOk] at h; exact h.1.2
theorem rowOk_cell {C : Int} {z : List Int} (h : rowOk C z = true) (k : Nat) (hk : k < z.length) : 0 ≤ z.getD k 0 ∧ z.getD k 0 ≤ 100000 := by
  have h1 := good_cell (rowOk_good h) k hk
  simp [rowOk] at h
  have h2 := h.2 z[k] (List.getElem_mem hk)
  refine ⟨?_, h1.2⟩
  simpa [List.getD, hk] using h2
theorem rowOk_of {C : Int} {z : List Int} (hg : good z = true) (hl : (z.length : Int) = C) (h : ∀ k, k < z.length → 0 ≤ z.getD k 0) : rowOk C z = true := by
  simp only [rowOk, hg, Bool.true_and, Bool.and_eq_true, decide_eq_true_eq, List.all_eq_true]
  refine ⟨hl, fun x hx => ?_⟩
  obtain ⟨k, hk, rfl⟩ := List.getElem_of_mem hx
  simpa [List.getD, hk] using h k hk
theorem tbB_C {C : Int} {zss : List (List Int)} (h : tbB C zss = true) : 1 ≤ C ∧ C ≤ 6 := by simp [tbB] at h; exact h.1.1
theorem tbB_n {C : Int} {zss : List (List Int)} (h : tbB C zss = true) : 1 ≤ zss.length ∧ zss.length ≤ 8 := by simp [tbB] at h; exact h.1.2
theorem tbB_row {C : Int} {zss : List (List Int)} (h : tbB C zss = true) {k : Nat} {z : List Int} (hz : zss[k]? = some z) : rowOk C z = true := by
  have h1 : zss.all (rowOk C) = true := by simp only [tbB, Bool.and_eq_true] at h; exact h.2
  exact List.all_eq_true.1 h1 z (List.mem_of_getElem? hz)
theorem tbB_of {C : Int} {zss : List (List Int)} (h1 : 1 ≤ C ∧ C ≤ 6) (h2 : 1 ≤ zss.length ∧ zss.length ≤ 8) (h : ∀ z ∈ zss, rowOk C z = true) : tbB C zss = true := by
  simp only [tbB, Bool.and_eq_true, decide_eq_true_eq, List.all_eq_true]
  exact ⟨⟨h1, h2⟩, h⟩
theorem all_drop {α : Type} {p : α → Bool} {xs : List α} {k : Nat} {x : α} (h : xs[k]? = some x) : (xs.drop k).all p = (p x && (xs.drop (k + 1)).all p) := by
  obtain ⟨hk, rfl⟩ := List.getElem?_eq_some_iff.1 h
  rw [List.drop_eq_getElem_cons hk, List.all_cons]
theorem tbB_sum {C : Int} {zss : List (List Int)} (h : tbB C zss = true) : ∀ z ∈ zss, z.length ≤ 6 := fun z hz => by
  obtain ⟨k, hk, rfl⟩ := List.getElem_of_mem hz
  exact good_len (rowOk_good (tbB_row h (List.getElem?_eq_getElem hk)))

end Go.Proofs.Ytipgepienagplaa

/- Plain: a tableau's rows as a table. -/
namespace Go.Proofs.Ytipgepienagplaa

def onesW (zss : List (List Int)) : List WRow := zss.map fun z => (z, 1)
/-- Each row once. -/
def ttW (zss : List (List Int)) : List WRow := distW (putAll [] (onesW zss))
def ttB (p : Int) (zss : List (List Int)) : Bool := tbB p zss && goodT p (ttW zss)

theorem onesW_length (zss : List (List Int)) : (onesW zss).length = zss.length := by simp [onesW]
theorem sumW_ones (zs : List Int) : ∀ zss : List (List Int), 0 ≤ sumW (onesW zss) zs ∧ (0 < sumW (onesW zss) zs ↔ zs ∈ zss)
  | [] => by simp [sumW, onesW]
  | z :: zss => by
    have ih := sumW_ones zs zss
    have e : sumW (onesW (z :: zss)) zs = (if z = zs then 1 else 0) + sumW (onesW zss) zs := by simp [sumW, onesW]
    rw [e, List.mem_cons]
    by_cases h : z = zs
    · rw [if_pos h]; exact ⟨by omega, ⟨fun _ => .inl h.symm, fun _ => by omega⟩⟩
    · rw [if_neg h]
      refine ⟨by omega, ⟨fun h1 => .inr (ih.2.1 (by omega)), fun h1 => ?_⟩⟩
      rcases h1 with h1 | h1
      · exact absurd h1.symm h
      · have := ih.2.2 h1; omega
theorem distW_wOf0 {ts : List WRow} (hr : Rises ts) (zs : List Int) : wOf (distW ts) zs = if 0 < wOf ts zs then 1 else 0 := by
  induction ts with
  | nil => rfl
  | cons t ts ih =>
    have h2 := List.pairwise_cons.1 hr
    have e1 : distW (t :: ts) = (match plainG t with | none => distW ts | some s => s :: distW ts) := by unfold distW; rw [List.filterMap_cons]; cases plainG t <;> rfl
    rw [e1, wOf_cons]
    by_cases e : t.1 = zs
    · rw [if_pos e]
      have hno : wOf (distW ts) zs = 0 := by
        refine wOf_absent fun s hs e2 => ?_
        obtain ⟨u, hu, e3⟩ := some_mem hs
        exact cmp_ne (h2.1 u hu) (by rw [e, ← e2, (plainG_some e3).1])
      cases hg : plainG t with
      | none =>
        have : ¬ 0 < t.2 := by
          intro h
          unfold plainG at hg
          rw [if_pos h] at hg
          cases hg
        rw [if_neg this]; exact hno
      | some s =>
        have := plainG_some hg
        rw [if_pos this.2]
        show wOf (s :: distW ts) zs = 1
        rw [wOf_cons, this.1]; simp [e]
    · rw [if_neg e, ← ih h2.2]
      cases hg : plainG t with
      | none => rfl
      | some s =>
        have := plainG_some hg
        show wOf (s :: distW ts) zs = _
        rw [wOf_cons, this.1]; simp [e]
theorem tells_tt {q : Nat} {zss : List (List Int)} {f : List Int → Int} (h : ∀ z ∈ zss, good z = true ∧ z.length = q) (hf : ∀ zs, good zs = true → zs.length = q → f (raised zs) = if zs ∈ zss then 1 else 0) : Tells q f (ttW zss) := by
  have hr : Rises (putAll [] (onesW zss)) := putAll_rises List.Pairwise.nil
  refine ⟨rises_some (fun t s hs => by rw [(plainG_some hs).1]) hr, fun t ht => by obtain ⟨s, hs, e⟩ := some_mem ht; rw [(plainG_some e).1]; simp, fun t ht => ?_, fun zs h1 h2 => ?_⟩
  · obtain ⟨s, hs, e⟩ := some_mem ht
    rw [(plainG_some e).1]
    rcases putAll_rows hs with ⟨u, hu, _⟩ | ⟨u, hu, e2⟩
    · cases hu
    · rw [← e2]
      obtain ⟨z, hz, rfl⟩ := List.mem_map.1 hu
      exact h z hz
  · unfold ttW
    rw [distW_wOf0 hr, putAll_wOf zs List.Pairwise.nil, wOf_nil, hf zs h1 h2, Int.zero_add]
    have := sumW_ones zs zss
    by_cases hm : zs ∈ zss
    · rw [if_pos hm, if_pos (this.2.2 hm)]
    · rw [if_neg hm, if_neg (fun h => hm (this.2.1 h))]
theorem ttB_small (p : Int) (zss : List (List Int)) : ttB p zss = true → goodT p (ttW zss) = true := fun h => by simp only [ttB, Bool.and_eq_true] at h; exact h.2

theorem putAll_ok9 {ts l : List WRow} {M0 M : Int} (h0 : 0 ≤ M0) (hM : 0 ≤ M) (hr : Rises ts) (ht : ∀ t ∈ ts, t.1.length ≤ 6 ∧ -M0 ≤ t.2 ∧ t.2 ≤ M0) (hl : ∀ t ∈ l, t.1.length ≤ 6 ∧ -M ≤ t.2 ∧ t.2 ≤ M) :
    ∀ t ∈ putAll ts l, t.1.length ≤ 6 ∧ -(M0 + M * l.length) ≤ t.2 ∧ t.2 ≤ M0 + M * l.length := fun t h => by
  have h6 : t.1.length ≤ 6 := by
    rcases putAll_rows h with ⟨s, hs, e⟩ | ⟨s, hs, e⟩
    · rw [← e]; exact (ht s hs).1
    · rw [← e]; exact (hl s hs).1
  have hw := wOf_mem (putAll_rises (l := l) hr) h
  rw [putAll_wOf t.1 hr] at hw
  have b1 := wOf_bound (zs := t.1) h0 (fun s hs => (ht s hs).2)
  have b2 := sumW_bound (zs := t.1) hM (fun s hs => (hl s hs).2)
  omega

/-- The keys of a map that has each row's array. -/
def keysR (zss : List (List Int)) (k : Nat) : List (List Int) := ((zss.take k).map raised).reverse
theorem keysR_succ {zss : List (List Int)} {k : Nat} {z : List Int} (h : zss[k]? = some z) : keysR zss (k + 1) = raised z :: keysR zss k := by
  obtain ⟨hk, rfl⟩ := List.getElem?_eq_some_iff.1 h
  unfold keysR
  rw [List.take_succ_eq_append_getElem hk, List.map_append, List.reverse_append]; rfl
def onceS (S : List (List Int)) : List Int → Int := fun x => if x ∈ S then 1 else 0
theorem onceS_cons (a : List Int) (S : List (List Int)) (x : List Int) : (if x = a then (1 : Int) else onceS S x) = onceS (a :: S) x := by
  unfold onceS
  by_cases h : x = a
  · rw [if_pos h, if_pos (by simp [h])]
  · rw [if_neg h]
    by_cases h2 : x ∈ S
    · rw [if_pos h2, if_pos (by simp [h2])]
    · rw [if_neg h2, if_neg (by simp [h, h2])]
theorem keysR_keys {q n : Nat} {zss : List (List Int)} (hn : zss.length = n) (h : ∀ z ∈ zss, good z = true ∧ z.length = q) : Keys q (keysR zss n) := fun a ha => by
  unfold keysR at ha
  rw [List.take_of_length_le (by omega), List.mem_reverse] at ha
  obtain ⟨z, hz, rfl⟩ := List.mem_map.1 ha
  exact ⟨z, (h z hz).1, (h z hz).2, rfl⟩
theorem onceS_raised {q n : Nat} {zss : List (List Int)} (hn : zss.length = n) (h : ∀ z ∈ zss, good z = true ∧ z.length = q) {zs : List Int} (hg : good zs = true) : onceS (keysR zss n) (raised zs) = if zs ∈ zss then 1 else 0 := by
  unfold onceS keysR
  rw [List.take_of_length_le (by omega)]
  have : raised zs ∈ (zss.map raised).reverse ↔ zs ∈ zss := by
    rw [List.mem_reverse, List.mem_map]
    constructor
    · rintro ⟨z, hz, e⟩
      exact (raised_inj (h z hz).1 hg e) ▸ hz
    · exact fun hz => ⟨zs, hz, rfl⟩
  by_cases hm : zs ∈ zss
  · rw [if_pos hm, if_pos (this.2 hm)]
  · rw [if_neg hm, if_neg (fun h => hm (this.1 h))]

end Go.Proofs.Ytipgepienagplaa

/- Plain facts on slices of tables: what lies in memory, what a call owns, what the laws mark. -/
namespace Go.Proofs.Ytipgepienagplaa
open Go.RowKit

/-- A table: its columns and its rows. -/
abbrev Tab := Int × List WRow
abbrev tat (ss : List Tab) (i : Nat) : Tab := ss.getD i (0, [])
theorem tat_mem {ss : List Tab} {i : Nat} (h : i < ss.length) : tat ss i ∈ ss := by
  rw [show tat ss i = ss[i] by simp [tat, List.getD, h]]; exact List.getElem_mem h
theorem tat_left {ss ss' : List Tab} {i : Nat} (h : i < ss.length) : tat (ss ++ ss') i = tat ss i := by simp [tat, List.getD, List.getElem?_append_left h]
theorem tat_last (ss : List Tab) (t : Tab) : tat (ss ++ [t]) ss.length = t := by simp [tat, List.getD]

/-- A slice of tables with the address a holds ss in the world w. -/
def AtSW (w : World) (a : Option Addr) (ss : List Tab) : Prop :=
  ss = [] ∨ ∃ b off, a = some ⟨b, off, none⟩ ∧ ∀ i, i < ss.length → ∃ a' c', w.cell? ⟨b, off + i * 2, none⟩ = some (.int .i64 (tat ss i).1) ∧ w.cell? ⟨b, off + i * 2 + 1, none⟩ = some (.slice a' (tat ss i).2.length c') ∧
    (tat ss i).2.length ≤ 9223372036854775807 ∧ AtW w a' (tat ss i).2
/-- The same, as a function reads it that hands its rows on. -/
def AtSM (w : World) (a : Option Addr) (ss : List Tab) : Prop :=
  ss = [] ∨ ∃ b off, a = some ⟨b, off, none⟩ ∧ ∀ i, i < ss.length → ∃ a' c', w.cell? ⟨b, off + i * 2, none⟩ = some (.int .i64 (tat ss i).1) ∧ w.cell? ⟨b, off + i * 2 + 1, none⟩ = some (.slice a' (tat ss i).2.length c') ∧
    (tat ss i).2.length ≤ 9223372036854775807 ∧ Formed a' (tat ss i).2.length c' ∧ AtM w a' (tat ss i).2

theorem AtSW.below {w w' : World} {a : Option Addr} {ss : List Tab} (h : AtSW w a ss) (hb : Below w.heap.size w w') : AtSW w' a ss := by
  rcases h with h | ⟨b, off, rfl, hc⟩
  · exact .inl h
  · refine .inr ⟨b, off, rfl, fun i hi => ?_⟩
    obtain ⟨a', c', h1, h2, h3, h4⟩ := hc i hi
    exact ⟨a', c', cell_later hb h1, cell_later hb h2, h3, h4.below hb⟩
theorem AtSW.alloc {w : World} {a : Option Addr} {ss : List Tab} (h : AtSW w a ss) (o : Obj) : AtSW (w.alloc o) a ss := h.below ((Below.refl _ _).alloc (Nat.le_refl _) o)
theorem AtSW.some {w : World} {a : Option Addr} {ss : List Tab} (h : AtSW w a ss) (hp : 0 < ss.length) :
    ∃ b off, a = Option.some ⟨b, off, none⟩ ∧ ∀ i, i < ss.length → ∃ a' c', w.cell? ⟨b, off + i * 2, none⟩ = Option.some (.int .i64 (tat ss i).1) ∧ w.cell? ⟨b, off + i * 2 + 1, none⟩ = Option.some (.slice a' (tat ss i).2.length c') ∧
      (tat ss i).2.length ≤ 9223372036854775807 ∧ AtW w a' (tat ss i).2 := by
  rcases h with rfl | h
  · simp at hp
  · exact h
theorem AtSM.below {w w' : World} {a : Option Addr} {ss : List Tab} (h : AtSM w a ss) (hb : Below w.heap.size w w') : AtSM w' a ss := by
  rcases h with h | ⟨b, off, rfl, hc⟩
  · exact .inl h
  · refine .inr ⟨b, off, rfl, fun i hi => ?_⟩
    obtain ⟨a', c', h1, h2, h3, h5, h4⟩ := hc i hi
    exact ⟨a', c', cell_later hb h1, cell_later hb h2, h3, h5, h4.below hb⟩
theorem AtSM.alloc {w : World} {a : Option Addr} {ss : List Tab} (h : AtSM w a ss) (o : Obj) : AtSM (w.alloc o) a ss := h.below ((Below.refl _ _).alloc (Nat.le_refl _) o)
theorem AtSM.drew {w : World} {a : Option Addr} {ss : List Tab} (h : AtSM w a ss) : AtSM w.drew a ss := h.below (Below.refl _ _).drew
theorem AtSM.some {w : World} {a : Option Addr} {ss : List Tab} (h : AtSM w a ss) (hp : 0 < ss.length) :
    ∃ b off, a = Option.some ⟨b, off, none⟩ ∧ ∀ i, i < ss.length → ∃ a' c', w.cell? ⟨b, off + i * 2, none⟩ = Option.some (.int .i64 (tat ss i).1) ∧ w.cell? ⟨b, off + i * 2 + 1, none⟩ = Option.some (.slice a' (tat ss i).2.length c') ∧
      (tat ss i).2.length ≤ 9223372036854775807 ∧ Formed a' (tat ss i).2.length c' ∧ AtM w a' (tat ss i).2 := by
  rcases h with rfl | h
  · simp at hp
  · exact h
theorem AtSM.atSW {w : World} {a : Option Addr} {ss : List Tab} (h : AtSM w a ss) : AtSW w a ss := by
  rcases h with h | ⟨b, off, rfl, hc⟩
  · exact .inl h
  · refine .inr ⟨b, off, rfl, fun i hi => ?_⟩
    obtain ⟨a', c', h1, h2, h3, _, h4⟩ := hc i hi
    exact ⟨a', c', h1, h2, h3, h4.atW⟩

/-- How many marks the first k tables take: one for the columns, and those of the rows. -/
def stot (ss : List Tab) (k : Nat) : Nat := ((ss.take k).map fun t => wtot t.2 t.2.length + 1).sum
theorem stot_zero (ss : List Tab) : stot ss 0 = 0 := rfl
theorem stot_succ (ss : List Tab) (k : Nat) (h : k < ss.length) : stot ss (k + 1) = stot ss k + (wtot (tat ss k).2 (tat ss k).2.length + 1) := by
  unfold stot
  rw [List.take_succ_eq_append_getElem h, List.map_append, List.sum_append]
  simp only [List.map_cons, List.map_nil, List.sum_cons, List.sum_nil, Nat.add_zero]
  simp [h]
theorem stot_grow (ss : List Tab) (j d : Nat) (h : j + d ≤ ss.length) : stot ss j + d ≤ stot ss (j + d) := by
  induction d with
  | zero => exact Nat.le_refl _
  | succ d ih => rw [show j + (d + 1) = (j + d) + 1 from rfl, stot_succ ss _ (by omega)]; have := ih (by omega); omega
theorem stot_mono (ss : List Tab) (j k : Nat) (h : j ≤ k) (hk : k ≤ ss.length) : stot ss j + (k - j) ≤ stot ss k := by
  have := stot_grow ss j (k - j) (by omega)
  rwa [show j + (k - j) = k by omega] at this
theorem stot_len (ss : List Tab) (k : Nat) (h : k ≤ ss.length) : k ≤ stot ss k := by have := stot_mono ss 0 k (by omega) h; rw [stot_zero] at this; omega
theorem stot_each (ss : List Tab) (n : Nat) (hn : ss.length = n) (i : Nat) (hi : i < n) : wtot (tat ss i).2 (tat ss i).2.length + 1 ≤ stot ss n := by
  have h1 := stot_succ ss i (by omega)
  have h2 := stot_mono ss (i + 1) n (by omega) (by omega)
  omega

/-- A list of tables that the laws' bound allows. -/
def SmU (ss : List Tab) (n : Nat) : Prop := ss.length = n ∧ stot ss n ≤ 1048576
theorem SmU.n {ss : List Tab} {n : Nat} (h : SmU ss n) : n ≤ 1048576 := by have := stot_len ss n (by have := h.1; omega); have := h.2; omega
theorem SmU.tab {ss : List Tab} {n : Nat} (h : SmU ss n) (i : Nat) (hi : i < n) : SmT (tat ss i).2 (tat ss i).2.length := ⟨rfl, by have := stot_each ss n h.1 i hi; have := h.2; omega⟩

section
variable {w w' : World} {lo hi : Nat} {a : Option Addr} {n c : Nat} {ts : List WRow}
theorem OwnT.kept {row : Option Nat} (h : OwnT w lo hi a n c ts) (hg : w.grownBy w' row) (hr : ∀ k, row = some k → k < lo ∨ hi ≤ k) : OwnT w' lo hi a n c ts := by obtain ⟨cs, h⟩ := h; exact ⟨cs, OwnWk.kept h hg hr⟩
theorem OwnT.setCell {a0 : Addr} (h : OwnT w lo hi a n c ts) (ha : a0.block < lo ∨ hi ≤ a0.block) (v : Value) : OwnT (w.setCell a0 v) lo hi a n c ts := by obtain ⟨cs, h⟩ := h; exact ⟨cs, OwnWk.setCell h ha v⟩
theorem OwnT.widen {lo' hi' : Nat} (h : OwnT w lo hi a n c ts) (h1 : lo' ≤ lo) (h2 : hi ≤ hi') (h3 : hi' ≤ w.heap.size) : OwnT w lo' hi' a n c ts := by obtain ⟨cs, h⟩ := h; exact ⟨cs, OwnWk.widen h h1 h2 h3⟩
theorem OwnT.top (h : OwnT w lo hi a n c ts) : hi ≤ w.heap.size := by obtain ⟨cs, h⟩ := h; exact h.top
end

/-- A slice of tables that the call itself made, its first k tables laid: each table's blocks lie from L i on and below H i, none among another one's. -/
structure OwnUk (w : World) (lo hi : Nat) (a : Option Addr) (n c : Nat) (ss : List Tab) (cells : List Value) (L H : Nat → Nat) (k : Nat) : Prop where
  len : ss.length = n
  top : hi ≤ w.heap.size
  outer : w.ownsRow lo 61 2 (.slice a n c) n cells
  outerLt : ∀ b, (Value.slice a n c).ownBlock = some b → b < hi
  row : ∀ i, i < k → ∃ a' c', cells[i * 2]? = some (.int .i64 (tat ss i).1) ∧ cells[i * 2 + 1]? = some (.slice a' (tat ss i).2.length c') ∧ OwnT w (L i) (H i) a' (tat ss i).2.length c' (tat ss i).2
  within : ∀ i, i < k → lo ≤ L i ∧ H i ≤ hi
  out : ∀ i, i < k → ∀ b, (Value.slice a n c).ownBlock = some b → b < L i ∨ H i ≤ b
  apart : ∀ i j, i < k → j < k → i ≠ j → H i ≤ L j ∨ H j ≤ L i
def OwnU (w : World) (lo hi : Nat) (a : Option Addr) (n c : Nat) (ss : List Tab) : Prop := ∃ cells L H, OwnUk w lo hi a n c ss cells L H n

section
variable {w w' : World} {lo hi : Nat} {a : Option Addr} {n c k : Nat} {ss : List Tab} {cells : List Value} {L H : Nat → Nat}

theorem OwnUk.below (h : OwnUk w lo hi a n c ss cells L H k) (hb : Below w.heap.size w w') : OwnUk w' lo hi a n c ss cells L H k :=
  ⟨h.len, Nat.le_trans h.top hb.size, owns_below h.outer hb, h.outerLt, fun i hi => by obtain ⟨a', c', h1, h2, h3⟩ := h.row i hi; exact ⟨a', c', h1, h2, h3.below hb⟩, h.within, h.out, h.apart⟩
theorem OwnUk.widen {lo' hi' : Nat} (h : OwnUk w lo hi a n c ss cells L H k) (h1 : lo' ≤ lo) (h2 : hi ≤ hi') (h3 : hi' ≤ w.heap.size) : OwnUk w lo' hi' a n c ss cells L H k :=
  ⟨h.len, h3, owns_mono h.outer h1, fun b hb => Nat.lt_of_lt_of_le (h.outerLt b hb) h2, h.row, fun i hi => by have := h.within i hi; omega, h.out, h.apart⟩
theorem OwnUk.blocks (h : OwnUk w lo hi a n c ss cells L H k) : ∀ b, (Value.slice a n c).ownBlock = some b → lo ≤ b ∧ b < hi := fun b hb => ⟨(h.outer.lt b hb).1, h.outerLt b hb⟩
theorem OwnUk.apartW {lo' hi' : Nat} (h : OwnUk w lo hi a n c ss cells L H k) (hp : Apart lo' hi' w w') (hd : hi ≤ lo' ∨ hi' ≤ lo) : OwnUk w' lo hi a n c ss cells L H k := by
  have hB := h.blocks
  refine ⟨h.len, Nat.le_trans h.top hp.size, hp.owns h.outer (fun k hk => by have := hB k hk; omega), h.outerLt, fun i hi => ?_, h.within, h.out, h.apart⟩
  obtain ⟨a', c', k1, k2, k3⟩ := h.row i hi
  have := h.within i hi
  exact ⟨a', c', k1, k2, k3.apartW hp (by omega)⟩
theorem OwnUk.kept {row : Option Nat} (h : OwnUk w lo hi a n c ss cells L H k) (hg : w.grownBy w' row) (hr : ∀ k, row = some k → k < lo ∨ hi ≤ k) : OwnUk w' lo hi a n c ss cells L H k := by
  have hB := h.blocks
  refine ⟨h.len, Nat.le_trans h.top hg.size, h.outer.kept hg ?_, h.outerLt, fun i hi => ?_, h.within, h.out, h.apart⟩
  · cases hv : (Value.slice a n c).ownBlock with
    | none => exact .inl rfl
    | some k => exact .inr (fun e => by have := hr k e.symm; have := hB k hv; omega)
  · obtain ⟨a', c', k1, k2, k3⟩ := h.row i hi
    have := h.within i hi
    exact ⟨a', c', k1, k2, k3.kept hg (fun b hb => by have := hr b hb; omega)⟩
theorem OwnUk.setCell {a0 : Addr} (h : OwnUk w lo hi a n c ss cells L H k) (ha : a0.block < lo ∨ hi ≤ a0.block) (v : Value) : OwnUk (w.setCell a0 v) lo hi a n c ss cells L H k :=
  h.kept (row := some a0.block) ⟨rfl, rfl, rfl, by simp [World.setCell], fun k _ hn => Below.heap_setCell w a0 v k (fun e => hn (by rw [e]))⟩ (fun k hk => by simp at hk; omega)

theorem OwnUk.start (hl : ss.length = n) (hh : hi ≤ w.heap.size) (ho : w.ownsRow lo 61 2 (.slice a n c) n cells) (hb : ∀ b, (Value.slice a n c).ownBlock = some b → b < hi) : OwnUk w lo hi a n c ss cells L H 0 :=
  ⟨hl, hh, ho, hb, fun i h => by omega, fun i h => by omega, fun i h => by omega, fun i j h => by omega⟩

theorem OwnUk.atSM (h : OwnUk w lo hi a n c ss cells L H n) (hs : SmU ss n) : AtSM w a ss := by
  rcases h.outer.2 with ⟨hv, h0⟩ | ⟨g, cap, cur, hv, _⟩
  · left
    have := h.len
    rw [h0] at this
    exact List.eq_nil_of_length_eq_zero this
  · simp only [Value.slice.injEq, true_and] at hv
    obtain ⟨rfl, rfl⟩ := hv
    refine .inr ⟨g, 0, rfl, fun i hi => ?_⟩
    rw [h.len] at hi
    obtain ⟨a', c', k1, k2, k3⟩ := h.row i hi
    have hl := h.outer.1
    have ht := hs.tab i hi
    refine ⟨a', c', ?_, ?_, by have := ht.n; omega, k3.formed, k3.atM ht⟩
    · rw [Nat.zero_add, h.outer.cellAt _ (by omega)]; exact k1
    · rw [Nat.zero_add, h.outer.cellAt _ (by omega)]; exact k2

/-- One more table is laid. -/
theorem OwnUk.put {w2 : World} {g m c' : Nat} {a' : Option Addr} {p : Int} (h : OwnUk w lo hi (some ⟨g, 0, none⟩) n c ss cells L H k) (hb : Below w.heap.size w w2) (hk : k < n)
    (hm : (tat ss k).2.length = m) (hx : (tat ss k).1 = p) (hlo : lo ≤ w.heap.size) (hrow : OwnT w2 w.heap.size w2.heap.size a' m c' (tat ss k).2) :
    OwnUk ((w2.setCell ⟨g, k * 2, none⟩ (.int .i64 p)).setCell ⟨g, k * 2 + 1, none⟩ (.slice a' m c')) lo w2.heap.size (some ⟨g, 0, none⟩) n c ss ((cells.set (k * 2) (.int .i64 p)).set (k * 2 + 1) (.slice a' m c'))
      (fun i => if i < k then L i else w.heap.size) (fun i => if i < k then H i else w2.heap.size) (k + 1) := by
  have h2 := h.below hb
  have hz := hb.size
  have hgl : lo ≤ g ∧ g < hi := h.blocks g rfl
  have htop := h.top
  have hl := h.outer.1
  have hset : ∀ i, i < k → ∀ d, d < 2 → ((cells.set (k * 2) (.int .i64 p)).set (k * 2 + 1) (.slice a' m c'))[i * 2 + d]? = cells[i * 2 + d]? := fun i hi d hd => by
    rw [List.getElem?_set_ne (by omega), List.getElem?_set_ne (by omega)]
  refine ⟨h.len, by simp [World.setCell], owns_two h2.outer _ _ _ _, fun b hb' => ?_, fun i hi => ?_, fun i hi => ?_, fun i hi b hb' => ?_, fun i j hi hj hij => ?_⟩
  · have := h.outerLt b hb'
    omega
  · by_cases e : i = k
    · subst e
      refine ⟨a', c', ?_, ?_, ?_⟩
      · rw [List.getElem?_set_ne (by omega), List.getElem?_set_self (by omega), hx]
      · rw [hm, List.getElem?_set_self (by simp; omega)]
      · simp only [Nat.lt_irrefl, if_false]
        rw [hm]
        exact (hrow.setCell (a0 := ⟨g, i * 2, none⟩) (.inl (by show g < _; omega)) _).setCell (a0 := ⟨g, i * 2 + 1, none⟩) (.inl (by show g < _; omega)) _
    · have hi' : i < k := by omega
      obtain ⟨a1, c1, k1, k2, k3⟩ := h2.row i hi'
      have ho := h2.out i hi' g rfl
      have e0 := hset i hi' 0 (by omega)
      have e1 := hset i hi' 1 (by omega)
      simp only [Nat.add_zero] at e0
      simp only [if_pos hi']
      exact ⟨a1, c1, by rw [e0]; exact k1, by rw [e1]; exact k2, (k3.setCell (a0 := ⟨g, k * 2, none⟩) ho _).setCell (a0 := ⟨g, k * 2 + 1, none⟩) ho _⟩
  · by_cases e : i = k
    · subst e; simp only [Nat.lt_irrefl, if_false]; omega
    · simp only [if_pos (show i < k by omega)]
      have := h.within i (by omega)
      omega
  · have hgb : g = b := by simpa [Value.ownBlock] using hb'
    by_cases e : i = k
    · subst e; simp only [Nat.lt_irrefl, if_false]; omega
    · simp only [if_pos (show i < k by omega)]
      exact h.out i (by omega) b hb'
  · by_cases e : i = k
    · subst e
      simp only [Nat.lt_irrefl, if_false, if_pos (show j < i by omega)]
      have := h.within j (by omega)
      omega
    · simp only [if_pos (show i < k by omega)]
      by_cases e2 : j = k
      · subst e2
        simp only [Nat.lt_irrefl, if_false]
        have := h.within i (by omega)
        omega
      · simp only [if_pos (show j < k by omega)]
        exact h.apart i j (by omega) (by omega) hij

/-- One more table at the slice's end. -/
theorem OwnUk.pushed {w2 w3 w4 : World} {m c' g cap : Nat} {a' : Option Addr} {p : Int} {ts : List WRow} (h : OwnUk w lo hi a n c ss cells L H n) (hlo : lo ≤ w.heap.size) (hb : Below w.heap.size w w2)
    (hm : ts.length = m) (hrow : OwnT w2 w.heap.size w2.heap.size a' m c' ts) (hb3 : Below w2.heap.size w2 w3)
    (hown : w4.ownsRow lo 61 2 (.slice (some ⟨g, 0, none⟩) (n + 1) cap) (n + 1) (cells ++ [.int .i64 p, .slice a' m c'])) (hgr : w3.grownBy w4 (Value.slice a n c).ownBlock)
    (hat : (Value.slice a n c).ownBlock = some g ∨ w2.heap.size ≤ g) (hlt : g < w4.heap.size) :
    OwnUk w4 lo w4.heap.size (some ⟨g, 0, none⟩) (n + 1) cap (ss ++ [(p, ts)]) (cells ++ [.int .i64 p, .slice a' m c']) (fun i => if i < n then L i else w.heap.size) (fun i => if i < n then H i else w2.heap.size) (n + 1) := by
  have hz := h.len
  have hl := h.outer.1
  have hz2 := hb.size
  have hz3 := hb3.size
  have hz4 := hgr.size
  have htop := h.top
  have hL : ∀ i, i < n → (cells ++ [.int .i64 p, .slice a' m c'])[i * 2]? = cells[i * 2]? ∧ (cells ++ [.int .i64 p, .slice a' m c'])[i * 2 + 1]? = cells[i * 2 + 1]? := fun i hi =>
    ⟨List.getElem?_append_left (by omega), List.getElem?_append_left (by omega)⟩
  have hN0 : (cells ++ [.int .i64 p, .slice a' m c'])[n * 2]? = some (.int .i64 p) := by
    rw [List.getElem?_append_right (by omega), show n * 2 - cells.length = 0 by omega]; rfl
  have hN1 : (cells ++ [.int .i64 p, .slice a' m c'])[n * 2 + 1]? = some (.slice a' m c') := by
    rw [List.getElem?_append_right (by omega), show n * 2 + 1 - cells.length = 1 by omega]; rfl
  have hB := h.blocks
  refine ⟨by simp [hz], Nat.le_refl _, hown, fun b hb' => by simp [Value.ownBlock] at hb'; omega, fun i hi => ?_, fun i hi => ?_, fun i hi b hb' => ?_, fun i j hi hj hij => ?_⟩
  · by_cases e : i = n
    · subst e
      rw [show tat (ss ++ [(p, ts)]) i = (p, ts) by rw [← hz]; exact tat_last ss _]
      simp only [Nat.lt_irrefl, if_false, hm]
      exact ⟨a', c', hN0, hN1, (hrow.below hb3).kept hgr (fun b hb' => by have := hB b hb'; omega)⟩
    · have hi' : i < n := by omega
      obtain ⟨a1, c1, k1, k2, k3⟩ := h.row i hi'
      rw [tat_left (by omega)]
      simp only [if_pos hi']
      exact ⟨a1, c1, by rw [(hL i hi').1]; exact k1, by rw [(hL i hi').2]; exact k2, ((k3.below hb).below hb3).kept hgr (h.out i hi')⟩
  · by_cases e : i = n
    · subst e; simp only [Nat.lt_irrefl, if_false]; omega
    · simp only [if_pos (show i < n by omega)]
      have := h.within i (by omega)
      omega
  · have hgb : g = b := by simpa [Value.ownBlock] using hb'
    subst hgb
    by_cases e : i = n
    · subst e
      simp only [Nat.lt_irrefl, if_false]
      rcases hat with h' | h'
      · have := hB g h'; omega
      · omega
    · simp only [if_pos (show i < n by omega)]
      have := h.within i (by omega)
      rcases hat with h' | h'
      · exact h.out i (by omega) g h'
      · omega
  · by_cases e : i = n
    · subst e
      simp only [Nat.lt_irrefl, if_false, if_pos (show j < i by omega)]
      have := h.within j (by omega)
      omega
    · simp only [if_pos (show i < n by omega)]
      by_cases e2 : j = n
      · subst e2
        simp only [Nat.lt_irrefl, if_false]
        have := h.within i (by omega)
        omega
      · simp only [if_pos (show j < n by omega)]
        exact h.apart i j (by omega) (by omega) hij
end

theorem Apart.widen {lo hi lo' hi' : Nat} {w w' : World} (h : Apart lo hi w w') (h1 : lo' ≤ lo) (h2 : hi ≤ hi') : Apart lo' hi' w w' := ⟨h.os, h.tape, h.output, h.size, fun k hk hd => h.block k hk (by omega)⟩

/-- The first k tables as the laws mark them, the others as they were. -/
def mixU (m : Int) (ss : List Tab) (k : Nat) : List Tab := (List.range ss.length).map fun i => if i < k then (m + stot ss i, markW (m + stot ss i + 1) (tat ss i).2) else tat ss i
/-- The tables as the laws mark them, from m on. -/
def markU (m : Int) (ss : List Tab) : List Tab := (List.range ss.length).map fun i => (m + stot ss i, markW (m + stot ss i + 1) (tat ss i).2)
theorem markU_length (m : Int) (ss : List Tab) : (markU m ss).length = ss.length := by simp [markU]
theorem markU_at (m : Int) (ss : List Tab) (i : Nat) (h : i < ss.length) : tat (markU m ss) i = (m + stot ss i, markW (m + stot ss i + 1) (tat ss i).2) := by simp [markU, h]
theorem mixU_length (m : Int) (ss : List Tab) (k : Nat) : (mixU m ss k).length = ss.length := by simp [mixU]
theorem mixU_at (m : Int) (ss : List Tab) (k i : Nat) (h : i < ss.length) : tat (mixU m ss k) i = if i < k then (m + stot ss i, markW (m + stot ss i + 1) (tat ss i).2) else tat ss i := by simp [mixU, h]
theorem mixU_zero (m : Int) (ss : List Tab) : mixU m ss 0 = ss := by
  apply List.ext_getElem?
  intro i
  by_cases h : i < ss.length
  · simp [mixU, h]
  · simp [mixU, h]
theorem mixU_all (m : Int) (ss : List Tab) : mixU m ss ss.length = markU m ss := by
  unfold mixU markU
  exact List.map_congr_left fun i hi => if_pos (List.mem_range.1 hi)

theorem OwnUk.marked {w w2 : World} {lo hi : Nat} {g n c k l : Nat} {ss : List Tab} {cells : List Value} {L H : Nat → Nat} {m v : Int} {a' : Option Addr} {c' : Nat} (h : OwnUk w lo hi (some ⟨g, 0, none⟩) n c (mixU m ss k) cells L H n) (hz : ss.length = n) (hk : k < n)
    (hl : (tat ss k).2.length = l) (hv : m + stot ss k = v) (hcell : cells[k * 2 + 1]? = some (.slice a' l c')) (hrow : OwnT w2 (L k) (H k) a' l c' (markW (v + 1) (tat ss k).2)) (hg : Apart (L k) (H k) (w.setCell ⟨g, k * 2, none⟩ (.int .i64 v)) w2) :
    OwnUk w2 lo hi (some ⟨g, 0, none⟩) n c (mixU m ss (k + 1)) (cells.set (k * 2) (.int .i64 v)) L H n := by
  have hl2 := h.outer.1
  have hgk := h.out k hk g rfl
  have hw := h.within
  have ho1 : (w.setCell ⟨g, k * 2, none⟩ (.int .i64 v)).ownsRow lo 61 2 (.slice (some ⟨g, 0, none⟩) n c) n (cells.set (k * 2) (.int .i64 v)) := (h.outer.stored _ _).1
  refine ⟨by rw [mixU_length]; exact hz, by have := h.top; have := hg.size; simp [World.setCell] at this; omega, hg.owns ho1 (fun b hb => ?_), h.outerLt, fun i hi => ?_, h.within, h.out, h.apart⟩
  · have hgb : g = b := by simpa [Value.ownBlock] using hb
    omega
  · by_cases e : i = k
    · subst e
      rw [mixU_at m ss (i + 1) i (by omega), if_pos (by omega)]
      refine ⟨a', c', ?_, ?_, ?_⟩
      · rw [List.getElem?_set_self (by omega), hv]
      · rw [List.getElem?_set_ne (by omega)]; simp only [markW_length, hl]; exact hcell
      · simp only [markW_length, hl]; rw [hv]; exact hrow
    · obtain ⟨a1, c1, k1, k2, k3⟩ := h.row i hi
      have hm1 : tat (mixU m ss (k + 1)) i = tat (mixU m ss k) i := by
        rw [mixU_at m ss (k + 1) i (by omega), mixU_at m ss k i (by omega)]
        by_cases e1 : i < k
        · rw [if_pos e1, if_pos (by omega)]
        · rw [if_neg e1, if_neg (by omega)]
      rw [hm1]
      have hoi := h.out i hi g rfl
      have hap := h.apart i k hi hk e
      exact ⟨a1, c1, by rw [List.getElem?_set_ne (by omega)]; exact k1, by rw [List.getElem?_set_ne (by omega)]; exact k2, (k3.setCell (a0 := ⟨g, k * 2, none⟩) hoi _).apartW hg hap⟩

section
variable {w w' : World} {lo hi : Nat} {a : Option Addr} {n c : Nat} {ss : List Tab}
theorem OwnU.below (h : OwnU w lo hi a n c ss) (hb : Below w.heap.size w w') : OwnU w' lo hi a n c ss := by obtain ⟨cs, L, H, h⟩ := h; exact ⟨cs, L, H, h.below hb⟩
theorem OwnU.apartW {lo' hi' : Nat} (h : OwnU w lo hi a n c ss) (hp : Apart lo' hi' w w') (hd : hi ≤ lo' ∨ hi' ≤ lo) : OwnU w' lo hi a n c ss := by obtain ⟨cs, L, H, h⟩ := h; exact ⟨cs, L, H, h.apartW hp hd⟩
theorem OwnU.atM (h : OwnU w lo hi a n c ss) (hs : SmU ss n) : AtSM w a ss := by obtain ⟨cs, L, H, h⟩ := h; exact h.atSM hs
theorem OwnU.atSW (h : OwnU w lo hi a n c ss) (hs : SmU ss n) : AtSW w a ss := (h.atM hs).atSW
theorem OwnU.len (h : OwnU w lo hi a n c ss) : ss.length = n := by obtain ⟨cs, L, H, h⟩ := h; exact h.len
theorem OwnU.widen {lo' hi' : Nat} (h : OwnU w lo hi a n c ss) (h1 : lo' ≤ lo) (h2 : hi ≤ hi') (h3 : hi' ≤ w.heap.size) : OwnU w lo' hi' a n c ss := by obtain ⟨cs, L, H, h⟩ := h; exact ⟨cs, L, H, h.widen h1 h2 h3⟩
theorem OwnU.setCell {a0 : Addr} (h : OwnU w lo hi a n c ss) (ha : a0.block < lo ∨ hi ≤ a0.block) (v : Value) : OwnU (w.setCell a0 v) lo hi a n c ss := by obtain ⟨cs, L, H, h⟩ := h; exact ⟨cs, L, H, h.setCell ha v⟩
theorem OwnU.atMark {m : Int} (h : OwnU w lo hi a n c (markU m ss)) (hs : SmU ss n) : AtSW w a (markU m ss) := by
  obtain ⟨cells, L, H, h⟩ := h
  rcases h.outer.2 with ⟨hv, h0⟩ | ⟨g, cap, cur, hv, _⟩
  · left
    have := h.len
    rw [h0] at this
    exact List.eq_nil_of_length_eq_zero this
  · simp only [Value.slice.injEq, true_and] at hv
    obtain ⟨rfl, rfl⟩ := hv
    refine .inr ⟨g, 0, rfl, fun i hi => ?_⟩
    rw [h.len] at hi
    obtain ⟨a', c', k1, k2, k3⟩ := h.row i hi
    have hl := h.outer.1
    have ht := hs.tab i hi
    rw [markU_at m ss i (by rw [hs.1]; exact hi)] at k1 k2 k3 ⊢
    refine ⟨a', c', ?_, ?_, by simp only [markW_length]; have := ht.n; omega, ?_⟩
    · rw [Nat.zero_add, h.outer.cellAt _ (by omega)]; exact k1
    · rw [Nat.zero_add, h.outer.cellAt _ (by omega)]; exact k2
    · simp only [markW_length] at k3
      exact k3.atMark ht
theorem OwnU.set2 {g : Nat} (h : OwnU w lo hi a n c ss) (hg : g < lo ∨ hi ≤ g) (u v : Value) : OwnU ((w.setCell ⟨g, 0, none⟩ u).setCell ⟨g, 1, none⟩ v) lo hi a n c ss :=
  (h.setCell (a0 := ⟨g, 0, none⟩) hg u).setCell (a0 := ⟨g, 1, none⟩) hg v
theorem OwnU.nil (w : World) (lo : Nat) : OwnU w lo w.heap.size none 0 0 [] := ⟨[], fun _ => 0, fun _ => 0, OwnUk.start rfl (Nat.le_refl _) (World.ownsRow_nil _ _ _ _) (fun b hb => by cases hb)⟩
end

end Go.Proofs.Ytipgepienagplaa

/- What a function answers that tells tables. -/
namespace Go.Proofs.Ytipgepienagplaa
open Go.RowKit

def ansS (ok : Bool) (ss : List Tab) : List Tab := if ok then ss else []
def TbsRet (e : Ending) (w' : World) (lo : Nat) (ok : Bool) (ss : List Tab) : Prop := ∃ r m d, e = .returned (.tuple #[.slice r m d, .bool ok]) ∧ OwnU w' lo w'.heap.size r m d ss
theorem TbsRet.zero {w' : World} {lo : Nat} {ok : Bool} {ss : List Tab} (h : ok = false) : TbsRet (.returned (.tuple #[.slice none 0 0, .bool false])) w' lo ok (ansS ok ss) := by
  subst h
  exact ⟨none, 0, 0, rfl, OwnU.nil _ _⟩

end Go.Proofs.Ytipgepienagplaa
