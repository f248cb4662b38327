/- Several texts of one proof, in build order: WSum, LawG, GroundV, GrpH. -/
import Derived.Test.YtlfljfmhhnoinabM4
import Derived.Test.YtlfljfmhhnoinabM7
import Derived.Deep.DeepCutAuto
import Derived.Test.YtlfljfmhhnoinabM2
import Derived.Test.YtlfljfmhhnoinabM3
import Derived.Test.YtlfljfmhhnoinabM1

/- Plain: what is told by summing weights up, and by putting them one by one, is one list. -/
namespace Go.Proofs.Ytlfljfmhhnoinab
open Go.RowKit

/-- What a function that tells a table or nothing hands back. -/
def ansP (ok : Bool) (p : Int) : Int := if ok then p else 0
def ansT (ok : Bool) (ts : List WRow) : List WRow := if ok then ts else []
def TabAns (e : Ending) (w' : World) (lo : Nat) (ok : Bool) (p : Int) (ts : List WRow) : Prop := TabRet e w' lo ok (ansP ok p) (ansT ok ts)

theorem TabAns.zero {e : Ending} {w' : World} {lo : Nat} {ok : Bool} {p : Int} {ts : List WRow} (h : ok = false) (he : e = .returned (.tuple #[.agg #[.int .i64 0, .slice none 0 0], .bool false])) : TabAns e w' lo ok p ts := by
  subst h
  exact ⟨none, 0, 0, [], he, OwnWk.start rfl (Nat.le_refl _) (World.ownsRow_nil _ _ _ _) (fun b hb => by cases hb)⟩
theorem TabAns.tell {e : Ending} {w' : World} {lo : Nat} {ok : Bool} {p : Int} {ts : List WRow} (h : ok = goodT p ts) (hr : TabRet e w' lo (goodT p ts) (tellP p ts) (tellT p ts)) : TabAns e w' lo ok p ts := by
  subst h; exact hr

/-- What NewTable tells. -/
def newB (p : Int) (l : List WRow) : Bool := inc p && (decide (l.length ≤ 200) && (goodL p l && goodT p (putAll [] l)))
theorem newB_col {p : Int} {l : List WRow} (h : inc p = false) : newB p l = false := by simp [newB, h]
theorem newB_len {p : Int} {l : List WRow} (h : 200 < l.length) : newB p l = false := by
  have : decide (l.length ≤ 200) = false := by simp; omega
  simp [newB, this]
theorem newB_list {p : Int} {l : List WRow} (h : goodL p l = false) : newB p l = false := by simp [newB, h]
theorem newB_good {p : Int} {l : List WRow} (h1 : inc p = true) (h2 : l.length ≤ 200) (h3 : goodL p l = true) : newB p l = goodT p (putAll [] l) := by simp [newB, h1, h2, h3]

theorem keysTo_mem {ts : List WRow} {k : Nat} {a : List Int} (h : a ∈ keysTo ts k) : ∃ t ∈ ts, a = raised t.1 := by
  unfold keysTo at h
  rw [List.mem_reverse] at h
  obtain ⟨t, ht, rfl⟩ := List.mem_map.1 h
  exact ⟨t, List.mem_of_mem_take ht, rfl⟩
theorem goodL_mem {p : Int} {ts : List WRow} (h : goodL p ts = true) : ∀ t ∈ ts, good t.1 = true ∧ (t.1.length : Int) = p ∧ -1000000 ≤ t.2 ∧ t.2 ≤ 1000000 := fun t ht => goodW_cells (List.all_eq_true.1 h t ht)
theorem keys_list {q : Nat} {ts : List WRow} (h : goodL q ts = true) (k : Nat) : Keys q (keysTo ts k) := fun a ha => by
  obtain ⟨t, ht, rfl⟩ := keysTo_mem ha
  have := goodL_mem h t ht
  exact ⟨t.1, this.1, by omega, rfl⟩
theorem keys_append {q : Nat} {S S' : List (List Int)} (h : Keys q S) (h' : Keys q S') : Keys q (S ++ S') := fun a ha => by
  rcases List.mem_append.1 ha with ha | ha
  · exact h a ha
  · exact h' a ha

theorem Tells.unique {q : Nat} {f : List Int → Int} {ts us : List WRow} (h : Tells q f ts) (k : Tells q f us) : ts = us := by
  refine rises_ext h.rises k.rises h.noZero k.noZero fun zs => ?_
  by_cases e : good zs = true ∧ zs.length = q
  · rw [h.weight zs e.1 e.2, k.weight zs e.1 e.2]
  · rw [wOf_absent fun t ht e' => e (by rw [← e']; exact h.rows t ht), wOf_absent fun t ht e' => e (by rw [← e']; exact k.rows t ht)]

/-- The sum by arrays is the sum by rows. -/
theorem sumAt_sumW {ts : List WRow} {zs : List Int} {n : Nat} (hn : ts.length = n) (times : Int) (hg : ∀ t ∈ ts, good t.1 = true) (hz : good zs = true) : sumAt ts n times (raised zs) = sumW ts zs * times := by
  unfold sumAt sumW
  rw [List.take_of_length_le (by omega)]
  clear hn
  induction ts with
  | nil => simp
  | cons t ts ih =>
    rw [List.map_cons, List.map_cons, List.sum_cons, List.sum_cons, ih fun s hs => hg s (by simp [hs]), Int.add_mul]
    congr 1
    by_cases e : t.1 = zs
    · rw [if_pos e, if_pos (by rw [e])]
    · rw [if_neg e, if_neg (fun h => e (raised_inj (hg t (by simp)) hz h))]; simp

theorem sumW_absent {ts : List WRow} {zs : List Int} (h : ∀ t ∈ ts, t.1 ≠ zs) : sumW ts zs = 0 := by
  unfold sumW
  induction ts with
  | nil => rfl
  | cons t ts ih => rw [List.map_cons, List.sum_cons, if_neg (h t (by simp)), ih fun s hs => h s (by simp [hs])]; rfl
theorem sumW_rises {ts : List WRow} {zs : List Int} (h : Rises ts) : sumW ts zs = wOf ts zs := by
  induction ts with
  | nil => rfl
  | cons t ts ih =>
    obtain ⟨h1, h2⟩ := List.pairwise_cons.1 h
    have e : sumW (t :: ts) zs = (if t.1 = zs then t.2 else 0) + sumW ts zs := by simp [sumW]
    rw [e, ih h2, wOf_cons]
    by_cases e2 : t.1 = zs
    · rw [if_pos e2, if_pos e2, wOf_absent fun s hs e3 => cmp_ne (h1 s hs) (e2.trans e3.symm)]; omega
    · rw [if_neg e2, if_neg e2]; omega

theorem tells_put {q : Nat} {f : List Int → Int} {ts l : List WRow} (hr : Rises ts) (hn : NoZero ts) (hrow : ∀ t ∈ ts, good t.1 = true ∧ t.1.length = q) (hl : ∀ t ∈ l, good t.1 = true ∧ t.1.length = q)
    (hf : ∀ zs, good zs = true → zs.length = q → f (raised zs) = wOf ts zs + sumW l zs) : Tells q f (putAll ts l) where
  rises := putAll_rises hr
  noZero := putAll_nozero hn
  rows := fun t ht => by
    rcases putAll_rows ht with ⟨s, hs, e⟩ | ⟨s, hs, e⟩
    · rw [← e]; exact hrow s hs
    · rw [← e]; exact hl s hs
  weight := fun zs h1 h2 => by rw [putAll_wOf zs hr, hf zs h1 h2]

theorem tells_new {q n : Nat} {ts : List WRow} (hz : ts.length = n) (h : goodL q ts = true) : Tells q (sumAt ts n 1) (putAll [] ts) :=
  tells_put List.Pairwise.nil (fun t ht => by cases ht) (fun t ht => by cases ht) (fun t ht => by have := goodL_mem h t ht; exact ⟨this.1, by omega⟩)
    fun zs h1 _ => by rw [sumAt_sumW hz 1 (fun t ht => (goodL_mem h t ht).1) h1, wOf_nil]; omega

end Go.Proofs.Ytlfljfmhhnoinab

/- The laws' helpers over tables in one form: what they make, hold equal, mark, find held. -/
namespace Go.Proofs.Ytlfljfmhhnoinab
open Go.RowKit

/-- A list of weighted rows that the laws' bound allows. -/
def SmT (ts : List WRow) (n : Nat) : Prop := ts.length = n ∧ wtot ts n ≤ 1048576
theorem SmT.n {ts : List WRow} {n : Nat} (h : SmT ts n) : n ≤ 1048576 := by have := wtot_len ts n (by have := h.1; omega); have := h.2; omega
theorem SmT.row {ts : List WRow} {n : Nat} (h : SmT ts n) : ∀ i, i < n → (wat ts i).1.length ≤ 1048576 := fun i hi => Nat.le_trans (wtot_each ts n h.1 i hi) h.2
theorem SmT.rowx {ts : List WRow} {n : Nat} (h : SmT ts n) : ∀ i, i < n → (wat ts i).1.length ≤ 9223372036854775807 := fun i hi => Nat.le_trans (h.row i hi) (by decide)

/-- A slice of weighted rows that the call made: all its blocks lie from lo on and below hi. -/
def OwnT (w : World) (lo hi : Nat) (a : Option Addr) (n c : Nat) (ts : List WRow) : Prop := ∃ cells, OwnW w lo hi 69 3 a n c ts cells

section
variable {w w' : World} {lo hi : Nat} {a : Option Addr} {n c : Nat} {ts : List WRow}
theorem OwnT.below (h : OwnT w lo hi a n c ts) (hb : Below w.heap.size w w') : OwnT w' lo hi a n c ts := by obtain ⟨cs, h⟩ := h; exact ⟨cs, h.below hb⟩
theorem OwnT.apartW {lo' hi' : Nat} (h : OwnT w lo hi a n c ts) (hp : Apart lo' hi' w w') (hd : hi ≤ lo' ∨ hi' ≤ lo) : OwnT w' lo hi a n c ts := by obtain ⟨cs, h⟩ := h; exact ⟨cs, h.apartW hp hd⟩
theorem OwnT.atW (h : OwnT w lo hi a n c ts) (hs : SmT ts n) : AtW w a ts := by obtain ⟨cs, h⟩ := h; exact OwnWk.atW h hs.rowx
theorem OwnT.atM (h : OwnT w lo hi a n c ts) (hs : SmT ts n) : AtM w a ts := by obtain ⟨cs, h⟩ := h; exact OwnWk.atM h hs.rowx
theorem OwnT.formed (h : OwnT w lo hi a n c ts) : Formed a n c := by obtain ⟨cs, h⟩ := h; exact owns_formed h.outer
theorem OwnT.len (h : OwnT w lo hi a n c ts) : ts.length = n := by obtain ⟨cs, h⟩ := h; exact h.len
theorem OwnT.atMark {m : Int} (h : OwnT w lo hi a n c (markW m ts)) (hs : SmT ts n) : AtW w a (markW m ts) := by
  obtain ⟨cs, h⟩ := h
  refine OwnWk.atW h fun i hi => ?_
  rw [markW_at m ts i (by have := hs.1; omega)]
  simp only [marks_length]
  exact hs.rowx i hi
end

theorem toTableG (a : Option Addr) (n c : Nat) (ts : List WRow) (p : Int) (w : World) (hs : SmT ts n) (ha : AtW w a ts) :
    Calls Try.prog 8 #[.agg #[.int .i64 p, .slice a n c]] w fun e w' => ∃ g, e = .returned (.agg #[.int .i64 p, .slice (some ⟨g, 0, none⟩) n n]) ∧ OwnT w' w.heap.size w'.heap.size (some ⟨g, 0, none⟩) n n ts ∧ Below w.heap.size w w' :=
  (toTable_any a n c ts p w hs.1 hs.n hs.row ha).mono fun _ _ ⟨g, cs, h1, h2, h3⟩ => ⟨g, h1, ⟨cs, h2⟩, h3⟩
theorem toWeightedSG (a : Option Addr) (n c : Nat) (ts : List WRow) (w : World) (hs : SmT ts n) (ha : AtW w a ts) :
    Calls Try.prog 43 #[.slice a n c] w fun e w' => ∃ g, e = .returned (.slice (some ⟨g, 0, none⟩) n n) ∧ OwnT w' w.heap.size w'.heap.size (some ⟨g, 0, none⟩) n n ts ∧ Below w.heap.size w w' :=
  (toWeightedS_any a n c ts w hs.1 hs.n hs.row ha).mono fun _ _ ⟨g, cs, h1, h2, h3⟩ => ⟨g, h1, ⟨cs, h2⟩, h3⟩
theorem eqTableG (a a' : Option Addr) (n c c' : Nat) (ts : List WRow) (p : Int) (w : World) (hs : SmT ts n) (ha : AtW w a ts) (ha' : AtW w a' ts) :
    Calls Try.prog 12 #[.agg #[.int .i64 p, .slice a n c], .agg #[.int .i64 p, .slice a' n c']] w fun e w' => e = .returned (.bool true) ∧ Below w.heap.size w w' :=
  (eqTable_any a a' n n c c' ts ts p p w hs.1 hs.1 hs.n hs.n hs.row hs.row ha ha').mono fun _ _ ⟨h1, h2⟩ => ⟨by rw [h1, decide_eq_true ⟨rfl, rfl⟩], h2⟩
theorem eqWeightedSG (a a' : Option Addr) (n c c' : Nat) (ts : List WRow) (w : World) (hs : SmT ts n) (ha : AtW w a ts) (ha' : AtW w a' ts) :
    Calls Try.prog 50 #[.slice a n c, .slice a' n c'] w fun e w' => e = .returned (.bool true) ∧ Below w.heap.size w w' :=
  (eqWeightedS_any a a' n n c c' ts ts w hs.1 hs.1 hs.n hs.n hs.row hs.row ha ha').mono fun _ _ ⟨h1, h2⟩ => ⟨by rw [h1, decide_eq_true rfl], h2⟩
theorem markTableG (lo hi : Nat) (a : Option Addr) (n c : Nat) (ts : List WRow) (p m : Int) (w : World) (hs : SmT ts n) (h0 : 0 ≤ m) (h1 : m ≤ 268435456) (ho : OwnT w lo hi a n c ts) :
    Calls Try.prog 14 #[.agg #[.int .i64 p, .slice a n c], .int .i64 m] w fun e w' => e = .returned (.int .i64 (m + wtot ts n)) ∧ OwnT w' lo hi a n c (markW m ts) ∧ Apart lo hi w w' := by
  obtain ⟨cs, ho⟩ := ho
  exact markTable_any lo hi a n c ts p cs m w hs.row hs.2 h0 h1 ho
theorem markWeightedSG (lo hi : Nat) (a : Option Addr) (n c : Nat) (ts : List WRow) (m : Int) (w : World) (hs : SmT ts n) (h0 : 0 ≤ m) (h1 : m ≤ 268435456) (ho : OwnT w lo hi a n c ts) :
    Calls Try.prog 51 #[.slice a n c, .int .i64 m] w fun e w' => e = .returned (.int .i64 (m + wtot ts n)) ∧ OwnT w' lo hi a n c (markW m ts) ∧ Apart lo hi w w' := by
  obtain ⟨cs, ho⟩ := ho
  exact markWeightedS_any lo hi a n c ts cs m w hs.row hs.2 h0 h1 ho
theorem wtot_le {ts : List WRow} {M : Nat} (h : ∀ t ∈ ts, t.1.length ≤ M) : ∀ k, k ≤ ts.length → wtot ts k ≤ k * (M + 1) := by
  intro k hk
  induction k with
  | zero => simp [wtot_zero]
  | succ k ih =>
    have h1 := ih (by omega)
    have h2 := h _ (wat_mem (show k < ts.length by omega))
    rw [wtot_succ ts k (by omega), Nat.add_mul]
    omega
theorem goodT_wtot {p : Int} {ts : List WRow} (h : goodT p ts = true) : wtot ts ts.length ≤ 1048576 := by
  have h1 := wtot_le (M := 6) (fun t ht => good_len (goodL_mem (goodL_of_goodT h) t ht).1) ts.length (Nat.le_refl _)
  have h2 := (goodT_parts h).2.1
  omega
/-- What is told is small. -/
theorem ans_small {ok : Bool} {p : Int} {ts : List WRow} (h : ok = true → goodT p ts = true) : SmT (ansT ok ts) (ansT ok ts).length := by
  refine ⟨rfl, ?_⟩
  cases ok with
  | false => simp [ansT, wtot]
  | true => exact goodT_wtot (h rfl)

theorem newB_goodT {p : Int} {l : List WRow} (h : newB p l = true) : goodT p (putAll [] l) = true := by
  simp only [newB, Bool.and_eq_true] at h
  exact h.2.2.2
/-- Outside lo .. hi - 1 a call's new memory is its own. -/
theorem Below.toApart {w w' : World} (h : Below w.heap.size w w') (lo hi : Nat) : Apart lo hi w w' := ⟨h.os, h.tape, h.output, h.size, fun k hk _ => h.block k hk⟩


theorem set2_heap {w : World} {g : Nat} {x y : Value} {t : TypeId} (h : w.heap[g]? = some (.cells #[x, y] t (0, 0))) (u v : Value) : ((w.setCell ⟨g, 0, none⟩ u).setCell ⟨g, 1, none⟩ v).heap[g]? = some (.cells #[u, v] t (0, 0)) := by
  have h1 := heap_setCell_same w g 0 _ t u h
  have h2 := heap_setCell_same _ g 1 _ t v h1
  rw [h2]; rfl
theorem set2_0 {w : World} {g : Nat} {x y : Value} {t : TypeId} (h : w.heap[g]? = some (.cells #[x, y] t (0, 0))) (u v : Value) : ((w.setCell ⟨g, 0, none⟩ u).setCell ⟨g, 1, none⟩ v).cell? ⟨g, 0, none⟩ = some u := by
  rw [cell_of_row _ _ 0 _ _ (0, 0) (set2_heap h u v)]; rfl
theorem set2_1 {w : World} {g : Nat} {x y : Value} {t : TypeId} (h : w.heap[g]? = some (.cells #[x, y] t (0, 0))) (u v : Value) : ((w.setCell ⟨g, 0, none⟩ u).setCell ⟨g, 1, none⟩ v).cell? ⟨g, 1, none⟩ = some v := by
  rw [cell_of_row _ _ 1 _ _ (0, 0) (set2_heap h u v)]; rfl
theorem OwnT.set2 {w : World} {lo hi g : Nat} {a : Option Addr} {n c : Nat} {ts : List WRow} (h : OwnT w lo hi a n c ts) (hg : g < lo ∨ hi ≤ g) (u v : Value) : OwnT ((w.setCell ⟨g, 0, none⟩ u).setCell ⟨g, 1, none⟩ v) lo hi a n c ts := by
  obtain ⟨cs, h⟩ := h
  exact ⟨cs, (OwnWk.setCell h (a0 := ⟨g, 0, none⟩) hg u).setCell (a0 := ⟨g, 1, none⟩) hg v⟩

end Go.Proofs.Ytlfljfmhhnoinab

/- Plain facts on slices of groups: what lies in memory, what a call owns, what the laws mark. -/
namespace Go.Proofs.Ytlfljfmhhnoinab
open Go.RowKit

/-- A group: its key's cells and its two numbers. -/
abbrev GRow := List Int × Int × Int
abbrev gat (ts : List GRow) (i : Nat) : GRow := ts.getD i ([], 0, 0)

/-- A slice of weighted rows with the address a holds ts in the world w. -/
def AtV (w : World) (a : Option Addr) (ts : List GRow) : Prop :=
  ts = [] ∨ ∃ b off, a = some ⟨b, off, none⟩ ∧ ∀ i, i < ts.length → ∃ a' c', w.cell? ⟨b, off + i * 3, none⟩ = some (.slice a' (gat ts i).1.length c') ∧ w.cell? ⟨b, off + i * 3 + 1, none⟩ = some (.int .i64 (gat ts i).2.1) ∧ w.cell? ⟨b, off + i * 3 + 2, none⟩ = some (.int .i64 (gat ts i).2.2) ∧
    (gat ts i).1.length ≤ 9223372036854775807 ∧ At w a' (gat ts i).1

theorem AtV.nil (w : World) (a : Option Addr) : AtV w a [] := .inl rfl

theorem AtV.below {w w' : World} {a : Option Addr} {ts : List GRow} (h : AtV w a ts) (hb : Below w.heap.size w w') : AtV w' a ts := by
  rcases h with h | ⟨b, off, rfl, hc⟩
  · exact .inl h
  · refine .inr ⟨b, off, rfl, fun i hi => ?_⟩
    obtain ⟨a', c', h1, h2, h2', h3, h4⟩ := hc i hi
    exact ⟨a', c', cell_later hb h1, cell_later hb h2, cell_later hb h2', h3, h4.below hb⟩
theorem AtV.alloc {w : World} {a : Option Addr} {ts : List GRow} (h : AtV w a ts) (o : Obj) : AtV (w.alloc o) a ts := h.below ((Below.refl _ _).alloc (Nat.le_refl _) o)
theorem AtV.drew {w : World} {a : Option Addr} {ts : List GRow} (h : AtV w a ts) : AtV w.drew a ts := h.below (Below.refl _ _).drew

theorem AtV.some {w : World} {a : Option Addr} {ts : List GRow} (h : AtV w a ts) (hp : 0 < ts.length) :
    ∃ b off, a = Option.some ⟨b, off, none⟩ ∧ ∀ i, i < ts.length → ∃ a' c', w.cell? ⟨b, off + i * 3, none⟩ = Option.some (.slice a' (gat ts i).1.length c') ∧ w.cell? ⟨b, off + i * 3 + 1, none⟩ = Option.some (.int .i64 (gat ts i).2.1) ∧ w.cell? ⟨b, off + i * 3 + 2, none⟩ = Option.some (.int .i64 (gat ts i).2.2) ∧
      (gat ts i).1.length ≤ 9223372036854775807 ∧ At w a' (gat ts i).1 := by
  rcases h with rfl | h
  · simp at hp
  · exact h

/-- The block of the i-th row's cells. -/
def blkV (cells : List Value) (i : Nat) : Option Nat := (cells.getD (i * 3) (.bool false)).ownBlock

/-- A slice of weighted rows that the call itself made, its first k rows laid: all its blocks, each its own, lie from lo on and below hi. -/
structure OwnVk (w : World) (lo hi : Nat) (te ti : TypeId) (a : Option Addr) (n c : Nat) (ts : List GRow) (cells : List Value) (k : Nat) : Prop where
  len : ts.length = n
  top : hi ≤ w.heap.size
  outer : w.ownsRow lo te 3 (.slice a n c) n cells
  outerLt : ∀ b, (Value.slice a n c).ownBlock = some b → b < hi
  row : ∀ i, i < k → ∃ a' c', cells[i * 3]? = some (.slice a' (gat ts i).1.length c') ∧ cells[i * 3 + 1]? = some (.int .i64 (gat ts i).2.1) ∧ cells[i * 3 + 2]? = some (.int .i64 (gat ts i).2.2) ∧
    w.ownsRow lo ti 1 (.slice a' (gat ts i).1.length c') (gat ts i).1.length ((gat ts i).1.map (.int .i64))
  rowLt : ∀ i, i < k → ∀ b, blkV cells i = some b → b < hi ∧ (Value.slice a n c).ownBlock ≠ some b
  apart : ∀ i j, i < k → j < k → i ≠ j → ∀ b, blkV cells i = some b → blkV cells j ≠ some b
/-- All its rows are laid. -/
abbrev OwnV (w : World) (lo hi : Nat) (te ti : TypeId) (a : Option Addr) (n c : Nat) (ts : List GRow) (cells : List Value) : Prop := OwnVk w lo hi te ti a n c ts cells n

theorem blkV_of {cells : List Value} {i : Nat} {v : Value} (h : cells[i * 3]? = some v) : blkV cells i = v.ownBlock := by simp [blkV, List.getD, h]

section
variable {w w' : World} {lo hi : Nat} {te ti : TypeId} {a : Option Addr} {n c k : Nat} {ts : List GRow} {cells : List Value}

theorem OwnVk.below (h : OwnVk w lo hi te ti a n c ts cells k) (hb : Below w.heap.size w w') : OwnVk w' lo hi te ti a n c ts cells k :=
  ⟨h.len, Nat.le_trans h.top hb.size, owns_below h.outer hb, h.outerLt, fun i hi => by obtain ⟨a', c', h1, h2, h2', h3⟩ := h.row i hi; exact ⟨a', c', h1, h2, h2', owns_below h3 hb⟩, h.rowLt, h.apart⟩
theorem OwnVk.drew (h : OwnVk w lo hi te ti a n c ts cells k) : OwnVk w.drew lo hi te ti a n c ts cells k := h.below (Below.refl _ _).drew
theorem OwnVk.alloc (h : OwnVk w lo hi te ti a n c ts cells k) (o : Obj) : OwnVk (w.alloc o) lo hi te ti a n c ts cells k := h.below ((Below.refl _ _).alloc (Nat.le_refl _) o)

theorem OwnVk.widen {lo' hi' : Nat} (h : OwnVk w lo hi te ti a n c ts cells k) (h1 : lo' ≤ lo) (h2 : hi ≤ hi') (h3 : hi' ≤ w.heap.size) : OwnVk w lo' hi' te ti a n c ts cells k :=
  ⟨h.len, h3, owns_mono h.outer h1, fun b hb => Nat.lt_of_lt_of_le (h.outerLt b hb) h2, fun i hi => by obtain ⟨a', c', k1, k2, k2', k3⟩ := h.row i hi; exact ⟨a', c', k1, k2, k2', owns_mono k3 h1⟩,
    fun i hi b hb => ⟨Nat.lt_of_lt_of_le (h.rowLt i hi b hb).1 h2, (h.rowLt i hi b hb).2⟩, h.apart⟩

/-- Every block of it lies from lo on and below hi. -/
theorem OwnVk.blocks (h : OwnVk w lo hi te ti a n c ts cells k) :
    (∀ b, (Value.slice a n c).ownBlock = some b → lo ≤ b ∧ b < hi) ∧ ∀ i, i < k → ∀ b, blkV cells i = some b → lo ≤ b ∧ b < hi := by
  refine ⟨fun b hb => ⟨(h.outer.lt b hb).1, h.outerLt b hb⟩, fun i hi b hb => ⟨?_, (h.rowLt i hi b hb).1⟩⟩
  obtain ⟨a', c', k1, _, _, k3⟩ := h.row i hi
  rw [blkV_of k1] at hb
  exact (k3.lt b hb).1

theorem OwnVk.apartW {lo' hi' : Nat} (h : OwnVk w lo hi te ti a n c ts cells k) (hp : Apart lo' hi' w w') (hd : hi ≤ lo' ∨ hi' ≤ lo) : OwnVk w' lo hi te ti a n c ts cells k := by
  have hB := h.blocks
  refine ⟨h.len, Nat.le_trans h.top hp.size, hp.owns h.outer (fun k hk => by have := hB.1 k hk; omega), h.outerLt, fun i hi => ?_, h.rowLt, h.apart⟩
  obtain ⟨a', c', k1, k2, k2', k3⟩ := h.row i hi
  refine ⟨a', c', k1, k2, k2', hp.owns k3 (fun k hk => ?_)⟩
  have := hB.2 i hi k (by rw [blkV_of k1]; exact hk)
  omega

theorem OwnVk.kept {row : Option Nat} (h : OwnVk w lo hi te ti a n c ts cells k) (hg : w.grownBy w' row) (hr : ∀ k, row = some k → k < lo ∨ hi ≤ k) : OwnVk w' lo hi te ti a n c ts cells k := by
  have hB := h.blocks
  refine ⟨h.len, Nat.le_trans h.top hg.size, h.outer.kept hg ?_, h.outerLt, fun i hi => ?_, h.rowLt, h.apart⟩
  · cases hv : (Value.slice a n c).ownBlock with
    | none => exact .inl rfl
    | some k => exact .inr (fun e => by have := hr k e.symm; have := hB.1 k hv; omega)
  · obtain ⟨a', c', k1, k2, k2', k3⟩ := h.row i hi
    refine ⟨a', c', k1, k2, k2', k3.kept hg ?_⟩
    cases hv : (Value.slice a' (gat ts i).1.length c').ownBlock with
    | none => exact .inl rfl
    | some k => exact .inr (fun e => by have := hr k e.symm; have := hB.2 i hi k (by rw [blkV_of k1]; exact hv); omega)

theorem OwnVk.setCell {a0 : Addr} (h : OwnVk w lo hi te ti a n c ts cells k) (ha : a0.block < lo ∨ hi ≤ a0.block) (v : Value) : OwnVk (w.setCell a0 v) lo hi te ti a n c ts cells k :=
  h.kept (row := some a0.block) ⟨rfl, rfl, rfl, by simp [World.setCell], fun k _ hn => Below.heap_setCell w a0 v k (fun e => hn (by rw [e]))⟩ (fun k hk => by simp at hk; omega)

theorem OwnVk.atV (h : OwnVk w lo hi te ti a n c ts cells n) (hs : ∀ i, i < n → (gat ts i).1.length ≤ 9223372036854775807) : AtV w a ts := by
  rcases h.outer.2 with ⟨hv, h0⟩ | ⟨g, cap, cur, hv, _⟩
  · left
    have := h.len
    rw [h0] at this
    exact List.eq_nil_of_length_eq_zero this
  · simp only [Value.slice.injEq, true_and] at hv
    obtain ⟨rfl, rfl⟩ := hv
    refine .inr ⟨g, 0, rfl, fun i hi => ?_⟩
    rw [h.len] at hi
    obtain ⟨a', c', k1, k2, k2', k3⟩ := h.row i hi
    refine ⟨a', c', ?_, ?_, ?_, hs i hi, At.owned k3⟩
    · rw [Nat.zero_add, h.outer.cellAt _ (by omega)]; exact k1
    · rw [Nat.zero_add, h.outer.cellAt _ (by omega)]; exact k2
    · rw [Nat.zero_add, h.outer.cellAt _ (by omega)]; exact k2'

/-- Three stores into one row's cells. -/
theorem owns_three {base : Nat} {e : TypeId} {g n cap : Nat} {xs : List Value} (h : w.ownsRow base e 3 (.slice (some ⟨g, 0, none⟩) n cap) n xs) (i j l : Nat) (u v x : Value) :
    (((w.setCell ⟨g, i, none⟩ u).setCell ⟨g, j, none⟩ v).setCell ⟨g, l, none⟩ x).ownsRow base e 3 (.slice (some ⟨g, 0, none⟩) n cap) n (((xs.set i u).set j v).set l x) := ((((h.stored i u).1).stored j v).1.stored l x).1

/-- One more row is laid: its cells, which a call made, and its weight. -/
theorem OwnVk.put {w2 : World} {g m c' : Nat} {a' : Option Addr} {x y : Int} (h : OwnVk w lo hi te ti (some ⟨g, 0, none⟩) n c ts cells k) (hb : Below w.heap.size w w2) (hk : k < n)
    (hm : (gat ts k).1.length = m) (hx : (gat ts k).2.1 = x) (hy : (gat ts k).2.2 = y) (hlo : lo ≤ w.heap.size) (hrow : w2.ownsRow w.heap.size ti 1 (.slice a' m c') m ((gat ts k).1.map (.int .i64))) :
    OwnVk (((w2.setCell ⟨g, k * 3, none⟩ (.slice a' m c')).setCell ⟨g, k * 3 + 1, none⟩ (.int .i64 x)).setCell ⟨g, k * 3 + 2, none⟩ (.int .i64 y)) lo w2.heap.size te ti (some ⟨g, 0, none⟩) n c ts (((cells.set (k * 3) (.slice a' m c')).set (k * 3 + 1) (.int .i64 x)).set (k * 3 + 2) (.int .i64 y)) (k + 1) := by
  have h2 := h.below hb
  have hz := hb.size
  have hgl : lo ≤ g ∧ g < hi := h.blocks.1 g rfl
  have htop := h.top
  have hl := h.outer.1
  have hg1 : w2.grownBy (((w2.setCell ⟨g, k * 3, none⟩ (.slice a' m c')).setCell ⟨g, k * 3 + 1, none⟩ (.int .i64 x)).setCell ⟨g, k * 3 + 2, none⟩ (.int .i64 y)) (some g) :=
    ⟨rfl, rfl, rfl, by simp [World.setCell], fun j _ hn => (Below.heap_setCell _ _ _ j (fun e => hn (by rw [e]))).trans ((Below.heap_setCell _ _ _ j (fun e => hn (by rw [e]))).trans (Below.heap_setCell _ _ _ j (fun e => hn (by rw [e]))))⟩
  have hset : ∀ i, i < k → ∀ d, d < 3 → (((cells.set (k * 3) (.slice a' m c')).set (k * 3 + 1) (.int .i64 x)).set (k * 3 + 2) (.int .i64 y))[i * 3 + d]? = cells[i * 3 + d]? := fun i hi d hd => by
    rw [List.getElem?_set_ne (by omega), List.getElem?_set_ne (by omega), List.getElem?_set_ne (by omega)]
  have hsk : (((cells.set (k * 3) (.slice a' m c')).set (k * 3 + 1) (.int .i64 x)).set (k * 3 + 2) (.int .i64 y))[k * 3]? = some (.slice a' m c') := by
    rw [List.getElem?_set_ne (by omega), List.getElem?_set_ne (by omega), List.getElem?_set_self (by omega)]
  have hbk : ∀ i, i < k → blkV (((cells.set (k * 3) (.slice a' m c')).set (k * 3 + 1) (.int .i64 x)).set (k * 3 + 2) (.int .i64 y)) i = blkV cells i := fun i hi => by
    have := hset i hi 0 (by omega)
    simp only [Nat.add_zero] at this
    simp only [blkV, List.getD, this]
  have hold : ∀ i, i < k → ∀ b, blkV cells i = some b → b < w.heap.size := fun i hi b hb' => Nat.lt_of_lt_of_le (h.rowLt i hi b hb').1 h.top
  have hnew : ∀ b, (Value.slice a' m c').ownBlock = some b → w.heap.size ≤ b ∧ b < w2.heap.size := fun b hb' => hrow.lt b hb'
  refine ⟨h.len, by simp [World.setCell], owns_three h2.outer _ _ _ _ _ _, fun b hb' => ?_, fun i hi => ?_, fun i hi b hb' => ?_, fun i j hi hj hij b hb' => ?_⟩
  · have := h.outerLt b hb'
    omega
  · by_cases e : i = k
    · subst e
      refine ⟨a', c', by rw [hm]; exact hsk, ?_, ?_, ?_⟩
      · rw [List.getElem?_set_ne (by omega), List.getElem?_set_self (by simp; omega), hx]
      · rw [List.getElem?_set_self (by simp; omega), hy]
      · rw [hm]
        refine owns_mono (hrow.kept hg1 ?_) hlo
        cases hv : (Value.slice a' m c').ownBlock with
        | none => exact .inl rfl
        | some b => exact .inr (fun e => by have := hnew b hv; simp at e; omega)
    · obtain ⟨a1, c1, k1, k2, k2', k3⟩ := h2.row i (by omega)
      refine ⟨a1, c1, ?_, ?_, ?_, k3.kept hg1 ?_⟩
      · have := hset i (by omega) 0 (by omega); simp only [Nat.add_zero] at this; rw [this]; exact k1
      · rw [hset i (by omega) 1 (by omega)]; exact k2
      · rw [hset i (by omega) 2 (by omega)]; exact k2'
      · cases hv : (Value.slice a1 (gat ts i).1.length c1).ownBlock with
        | none => exact .inl rfl
        | some b => exact .inr (fun e => by have := (h.rowLt i (by omega) b (by rw [blkV_of k1]; exact hv)).2; simp [Value.ownBlock] at e this; omega)
  · by_cases e : i = k
    · subst e
      rw [blkV_of hsk] at hb'
      have := hnew b hb'
      refine ⟨by omega, ?_⟩
      simp [Value.ownBlock]
      omega
    · rw [hbk i (by omega)] at hb'
      have := h.rowLt i (by omega) b hb'
      exact ⟨by omega, this.2⟩
  · by_cases e : i = k
    · subst e
      rw [blkV_of hsk] at hb'
      rw [hbk j (by omega)]
      intro e'
      have := hold j (by omega) b e'
      have := hnew b hb'
      omega
    · rw [hbk i (by omega)] at hb'
      by_cases e2 : j = k
      · subst e2
        rw [blkV_of hsk]
        intro e'
        have := hold i (by omega) b hb'
        have := hnew b e'
        omega
      · rw [hbk j (by omega)]
        exact h.apart i j (by omega) (by omega) hij b hb'

theorem OwnVk.start (hl : ts.length = n) (hh : hi ≤ w.heap.size) (ho : w.ownsRow lo te 3 (.slice a n c) n cells) (hb : ∀ b, (Value.slice a n c).ownBlock = some b → b < hi) : OwnVk w lo hi te ti a n c ts cells 0 :=
  ⟨hl, hh, ho, hb, fun i h => by omega, fun i h => by omega, fun i j h => by omega⟩

end

/-- What szGroupS takes for the first k groups. -/
def vtot (ts : List GRow) (k : Nat) : Nat := ((ts.take k).map fun t => t.1.length + 1).sum
theorem vtot_zero (ts : List GRow) : vtot ts 0 = 0 := rfl
theorem vtot_succ (ts : List GRow) (k : Nat) (h : k < ts.length) : vtot ts (k + 1) = vtot ts k + ((gat ts k).1.length + 1) := by
  unfold vtot
  rw [List.take_succ_eq_append_getElem h, List.map_append, List.sum_append]
  simp only [List.map_cons, List.map_nil, List.sum_cons, List.sum_nil, Nat.add_zero]
  simp [h]
theorem vtot_mono (ts : List GRow) (j k : Nat) (h : j ≤ k) : vtot ts j ≤ vtot ts k := by
  obtain ⟨d, rfl⟩ := Nat.le.dest h
  induction d with
  | zero => exact Nat.le_refl _
  | succ d ih =>
    by_cases hk : j + d < ts.length
    · rw [show j + (d + 1) = (j + d) + 1 from rfl, vtot_succ ts _ hk]; have := ih (by omega); omega
    · have e1 : vtot ts (j + (d + 1)) = vtot ts (j + d) := by unfold vtot; rw [List.take_of_length_le (by omega), List.take_of_length_le (by omega)]
      rw [e1]; exact ih (by omega)
theorem vtot_each (ts : List GRow) (n : Nat) (hn : ts.length = n) (i : Nat) (hi : i < n) : (gat ts i).1.length ≤ vtot ts n := by
  have h1 := vtot_succ ts i (by omega)
  have h2 := vtot_mono ts (i + 1) n (by omega)
  omega
theorem vtot_len (ts : List GRow) (k : Nat) (h : k ≤ ts.length) : k ≤ vtot ts k := by
  induction k with
  | zero => exact Nat.zero_le _
  | succ k ih => rw [vtot_succ ts k (by omega)]; have := ih (by omega); omega

/-- How many marks the first k rows take: their cells, and two numbers. -/
def vmk (ts : List GRow) (k : Nat) : Nat := ((ts.take k).map fun t => t.1.length + 2).sum
theorem vmk_zero (ts : List GRow) : vmk ts 0 = 0 := rfl
theorem vmk_succ (ts : List GRow) (k : Nat) (h : k < ts.length) : vmk ts (k + 1) = vmk ts k + ((gat ts k).1.length + 2) := by
  unfold vmk
  rw [List.take_succ_eq_append_getElem h, List.map_append, List.sum_append]
  simp only [List.map_cons, List.map_nil, List.sum_cons, List.sum_nil, Nat.add_zero]
  simp [h]
theorem vmk_mono (ts : List GRow) (j k : Nat) (h : j ≤ k) : vmk ts j ≤ vmk ts k := by
  obtain ⟨d, rfl⟩ := Nat.le.dest h
  induction d with
  | zero => exact Nat.le_refl _
  | succ d ih =>
    by_cases hk : j + d < ts.length
    · rw [show j + (d + 1) = (j + d) + 1 from rfl, vmk_succ ts _ hk]; have := ih (by omega); omega
    · have e1 : vmk ts (j + (d + 1)) = vmk ts (j + d) := by unfold vmk; rw [List.take_of_length_le (by omega), List.take_of_length_le (by omega)]
      rw [e1]; exact ih (by omega)
theorem vmk_each (ts : List GRow) (n : Nat) (hn : ts.length = n) (i : Nat) (hi : i < n) : (gat ts i).1.length ≤ vmk ts n := by
  have h1 := vmk_succ ts i (by omega)
  have h2 := vmk_mono ts (i + 1) n (by omega)
  omega
theorem vmk_len (ts : List GRow) (k : Nat) (h : k ≤ ts.length) : k ≤ vmk ts k := by
  induction k with
  | zero => exact Nat.zero_le _
  | succ k ih => rw [vmk_succ ts k (by omega)]; have := ih (by omega); omega

/-- The groups as the laws mark them, from m on. -/
def markV (m : Int) (ts : List GRow) : List GRow := (List.range ts.length).map fun i => (marks (m + vmk ts i) (gat ts i).1.length, m + vmk ts i + (gat ts i).1.length, m + vmk ts i + (gat ts i).1.length + 1)
theorem markV_length (m : Int) (ts : List GRow) : (markV m ts).length = ts.length := by simp [markV]
theorem markV_at (m : Int) (ts : List GRow) (i : Nat) (h : i < ts.length) : gat (markV m ts) i = (marks (m + vmk ts i) (gat ts i).1.length, m + vmk ts i + (gat ts i).1.length, m + vmk ts i + (gat ts i).1.length + 1) := by
  simp [markV, h]

theorem vtake_succ (ts : List GRow) (k : Nat) (h : k < ts.length) : ts.take (k + 1) = ts.take k ++ [gat ts k] := by
  rw [List.take_succ_eq_append_getElem h]; simp [h]
theorem vne_of {ts ts' : List GRow} {k : Nat} (h : gat ts k ≠ gat ts' k) : ts ≠ ts' := fun e => h (by rw [e])
theorem vtake_all {ts ts' : List GRow} {k : Nat} (h1 : ts.length ≤ k) (h2 : ts'.length ≤ k) (h : ts.take k = ts'.take k) : ts = ts' := by
  rwa [List.take_of_length_le h1, List.take_of_length_le h2] at h

end Go.Proofs.Ytlfljfmhhnoinab

/- Contracts of the laws' helpers over groups: szGroup, szGroupS, toGroup, toGroupS. -/
namespace Go.Proofs.Ytlfljfmhhnoinab
open Go.RowKit

/-- What szGroupS takes: a slot a row, and the rows' cells. -/
theorem vtot_cells (ts : List GRow) (k : Nat) (h : k ≤ ts.length) : ∃ s : Nat, vtot ts k = k + s := ⟨vtot ts k - k, by have := vtot_len ts k h; omega⟩

theorem Try.infoV : (Try.prog.info? 73).map (fun i => (i.zero, i.size, i.bytes)) = some (some (.agg #[.slice none 0 0, .int .i64 0, .int .i64 0]), 3, 40) := by kernel_rfl

end Go.Proofs.Ytlfljfmhhnoinab
