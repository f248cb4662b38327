/- Several texts of one proof, in build order: WSum, LawG, GroundU. -/
import Derived.Test.YtmkhdocjabflkaaM4
import Derived.Test.YtmkhdocjabflkaaM8
import Derived.Deep.DeepCutAuto
import Derived.Test.YtmkhdocjabflkaaM3
import Derived.Test.YtmkhdocjabflkaaM2

/- Plain: what is told by summing weights up, and by putting them one by one, is one list. -/
namespace Go.Proofs.Ytmkhdocjabflkaa
open Go.RowKit

/-- What a function that tells a table or nothing hands back. -/
def ansP (ok : Bool) (p : Int) : Int := if ok then p else 0
def ansT (ok : Bool) (ts : List WRow) : List WRow := if ok then ts else []
def TabAns (e : Ending) (w' : World) (lo : Nat) (ok : Bool) (p : Int) (ts : List WRow) : Prop := TabRet e w' lo ok (ansP ok p) (ansT ok ts)

theorem TabAns.zero {e : Ending} {w' : World} {lo : Nat} {ok : Bool} {p : Int} {ts : List WRow} (h : ok = false) (he : e = .returned (.tuple #[.agg #[.int .i64 0, .slice none 0 0], .bool false])) : TabAns e w' lo ok p ts := by
  subst h
  exact ⟨none, 0, 0, [], he, OwnWk.start rfl (Nat.le_refl _) (World.ownsRow_nil _ _ _ _) (fun b hb => by cases hb)⟩
theorem TabAns.tell {e : Ending} {w' : World} {lo : Nat} {ok : Bool} {p : Int} {ts : List WRow} (h : ok = goodT p ts) (hr : TabRet e w' lo (goodT p ts) (tellP p ts) (tellT p ts)) : TabAns e w' lo ok p ts := by
  subst h; exact hr

/-- What NewTable tells. -/
def newB (p : Int) (l : List WRow) : Bool := inc p && (decide (l.length ≤ 200) && (goodL p l && goodT p (putAll [] l)))
theorem newB_col {p : Int} {l : List WRow} (h : inc p = false) : newB p l = false := by simp [newB, h]
theorem newB_len {p : Int} {l : List WRow} (h : 200 < l.length) : newB p l = false := by
  have : decide (l.length ≤ 200) = false := by simp; omega
  simp [newB, this]
theorem newB_list {p : Int} {l : List WRow} (h : goodL p l = false) : newB p l = false := by simp [newB, h]
theorem newB_good {p : Int} {l : List WRow} (h1 : inc p = true) (h2 : l.length ≤ 200) (h3 : goodL p l = true) : newB p l = goodT p (putAll [] l) := by simp [newB, h1, h2, h3]

theorem keysTo_mem {ts : List WRow} {k : Nat} {a : List Int} (h : a ∈ keysTo ts k) : ∃ t ∈ ts, a = raised t.1 := by
  unfold keysTo at h
  rw [List.mem_reverse] at h
  obtain ⟨t, ht, rfl⟩ := List.mem_map.1 h
  exact ⟨t, List.mem_of_mem_take ht, rfl⟩
theorem goodL_mem {p : Int} {ts : List WRow} (h : goodL p ts = true) : ∀ t ∈ ts, good t.1 = true ∧ (t.1.length : Int) = p ∧ -1000000 ≤ t.2 ∧ t.2 ≤ 1000000 := fun t ht => goodW_cells (List.all_eq_true.1 h t ht)
theorem keys_list {q : Nat} {ts : List WRow} (h : goodL q ts = true) (k : Nat) : Keys q (keysTo ts k) := fun a ha => by
  obtain ⟨t, ht, rfl⟩ := keysTo_mem ha
  have := goodL_mem h t ht
  exact ⟨t.1, this.1, by omega, rfl⟩
theorem keys_append {q : Nat} {S S' : List (List Int)} (h : Keys q S) (h' : Keys q S') : Keys q (S ++ S') := fun a ha => by
  rcases List.mem_append.1 ha with ha | ha
  · exact h a ha
  · exact h' a ha

theorem Tells.unique {q : Nat} {f : List Int → Int} {ts us : List WRow} (h : Tells q f ts) (k : Tells q f us) : ts = us := by
  refine rises_ext h.rises k.rises h.noZero k.noZero fun zs => ?_
  by_cases e : good zs = true ∧ zs.length = q
  · rw [h.weight zs e.1 e.2, k.weight zs e.1 e.2]
  · rw [wOf_absent fun t ht e' => e (by rw [← e']; exact h.rows t ht), wOf_absent fun t ht e' => e (by rw [← e']; exact k.rows t ht)]

/-- The sum by arrays is the sum by rows. -/
theorem sumAt_sumW {ts : List WRow} {zs : List Int} {n : Nat} (hn : ts.length = n) (times : Int) (hg : ∀ t ∈ ts, good t.1 = true) (hz : good zs = true) : sumAt ts n times (raised zs) = sumW ts zs * times := by
  unfold sumAt sumW
  rw [List.take_of_length_le (by omega)]
  clear hn
  induction ts with
  | nil => simp
  | cons t ts ih =>
    rw [List.map_cons, List.map_cons, List.sum_cons, List.sum_cons, ih fun s hs => hg s (by simp [hs]), Int.add_mul]
    congr 1
    by_cases e : t.1 = zs
    · rw [if_pos e, if_pos (by rw [e])]
    · rw [if_neg e, if_neg (fun h => e (raised_inj (hg t (by simp)) hz h))]; simp

theorem sumW_absent {ts : List WRow} {zs : List Int} (h : ∀ t ∈ ts, t.1 ≠ zs) : sumW ts zs = 0 := by
  unfold sumW
  induction ts with
  | nil => rfl
  | cons t ts ih => rw [List.map_cons, List.sum_cons, if_neg (h t (by simp)), ih fun s hs => h s (by simp [hs])]; rfl
theorem sumW_rises {ts : List WRow} {zs : List Int} (h : Rises ts) : sumW ts zs = wOf ts zs := by
  induction ts with
  | nil => rfl
  | cons t ts ih =>
    obtain ⟨h1, h2⟩ := List.pairwise_cons.1 h
    have e : sumW (t :: ts) zs = (if t.1 = zs then t.2 else 0) + sumW ts zs := by simp [sumW]
    rw [e, ih h2, wOf_cons]
    by_cases e2 : t.1 = zs
    · rw [if_pos e2, if_pos e2, wOf_absent fun s hs e3 => cmp_ne (h1 s hs) (e2.trans e3.symm)]; omega
    · rw [if_neg e2, if_neg e2]; omega

theorem tells_put {q : Nat} {f : List Int → Int} {ts l : List WRow} (hr : Rises ts) (hn : NoZero ts) (hrow : ∀ t ∈ ts, good t.1 = true ∧ t.1.length = q) (hl : ∀ t ∈ l, good t.1 = true ∧ t.1.length = q)
    (hf : ∀ zs, good zs = true → zs.length = q → f (raised zs) = wOf ts zs + sumW l zs) : Tells q f (putAll ts l) where
  rises := putAll_rises hr
  noZero := putAll_nozero hn
  rows := fun t ht => by
    rcases putAll_rows ht with ⟨s, hs, e⟩ | ⟨s, hs, e⟩
    · rw [← e]; exact hrow s hs
    · rw [← e]; exact hl s hs
  weight := fun zs h1 h2 => by rw [putAll_wOf zs hr, hf zs h1 h2]

theorem tells_new {q n : Nat} {ts : List WRow} (hz : ts.length = n) (h : goodL q ts = true) : Tells q (sumAt ts n 1) (putAll [] ts) :=
  tells_put List.Pairwise.nil (fun t ht => by cases ht) (fun t ht => by cases ht) (fun t ht => by have := goodL_mem h t ht; exact ⟨this.1, by omega⟩)
    fun zs h1 _ => by rw [sumAt_sumW hz 1 (fun t ht => (goodL_mem h t ht).1) h1, wOf_nil]; omega

end Go.Proofs.Ytmkhdocjabflkaa

/- The laws' helpers over tables in one form: what they make, hold equal, mark, find held. -/
namespace Go.Proofs.Ytmkhdocjabflkaa
open Go.RowKit

/-- A list of weighted rows that the laws' bound allows. -/
def SmT (ts : List WRow) (n : Nat) : Prop := ts.length = n ∧ wtot ts n ≤ 1048576
theorem SmT.n {ts : List WRow} {n : Nat} (h : SmT ts n) : n ≤ 1048576 := by have := wtot_len ts n (by have := h.1; omega); have := h.2; omega
theorem SmT.row {ts : List WRow} {n : Nat} (h : SmT ts n) : ∀ i, i < n → (wat ts i).1.length ≤ 1048576 := fun i hi => Nat.le_trans (wtot_each ts n h.1 i hi) h.2
theorem SmT.rowx {ts : List WRow} {n : Nat} (h : SmT ts n) : ∀ i, i < n → (wat ts i).1.length ≤ 9223372036854775807 := fun i hi => Nat.le_trans (h.row i hi) (by decide)

/-- A slice of weighted rows that the call made: all its blocks lie from lo on and below hi. -/
def OwnT (w : World) (lo hi : Nat) (a : Option Addr) (n c : Nat) (ts : List WRow) : Prop := ∃ cells, OwnW w lo hi 90 3 a n c ts cells

section
variable {w w' : World} {lo hi : Nat} {a : Option Addr} {n c : Nat} {ts : List WRow}
theorem OwnT.below (h : OwnT w lo hi a n c ts) (hb : Below w.heap.size w w') : OwnT w' lo hi a n c ts := by obtain ⟨cs, h⟩ := h; exact ⟨cs, h.below hb⟩
theorem OwnT.apartW {lo' hi' : Nat} (h : OwnT w lo hi a n c ts) (hp : Apart lo' hi' w w') (hd : hi ≤ lo' ∨ hi' ≤ lo) : OwnT w' lo hi a n c ts := by obtain ⟨cs, h⟩ := h; exact ⟨cs, h.apartW hp hd⟩
theorem OwnT.atW (h : OwnT w lo hi a n c ts) (hs : SmT ts n) : AtW w a ts := by obtain ⟨cs, h⟩ := h; exact OwnWk.atW h hs.rowx
theorem OwnT.atM (h : OwnT w lo hi a n c ts) (hs : SmT ts n) : AtM w a ts := by obtain ⟨cs, h⟩ := h; exact OwnWk.atM h hs.rowx
theorem OwnT.formed (h : OwnT w lo hi a n c ts) : Formed a n c := by obtain ⟨cs, h⟩ := h; exact owns_formed h.outer
theorem OwnT.len (h : OwnT w lo hi a n c ts) : ts.length = n := by obtain ⟨cs, h⟩ := h; exact h.len
theorem OwnT.atMark {m : Int} (h : OwnT w lo hi a n c (markW m ts)) (hs : SmT ts n) : AtW w a (markW m ts) := by
  obtain ⟨cs, h⟩ := h
  refine OwnWk.atW h fun i hi => ?_
  rw [markW_at m ts i (by have := hs.1; omega)]
  simp only [marks_length]
  exact hs.rowx i hi
end

theorem toTableG (a : Option Addr) (n c : Nat) (ts : List WRow) (p : Int) (w : World) (hs : SmT ts n) (ha : AtW w a ts) :
    Calls Try.prog 34 #[.agg #[.int .i64 p, .slice a n c]] w fun e w' => ∃ g, e = .returned (.agg #[.int .i64 p, .slice (some ⟨g, 0, none⟩) n n]) ∧ OwnT w' w.heap.size w'.heap.size (some ⟨g, 0, none⟩) n n ts ∧ Below w.heap.size w w' :=
  (toTable_any a n c ts p w hs.1 hs.n hs.row ha).mono fun _ _ ⟨g, cs, h1, h2, h3⟩ => ⟨g, h1, ⟨cs, h2⟩, h3⟩
theorem toWeightedSG (a : Option Addr) (n c : Nat) (ts : List WRow) (w : World) (hs : SmT ts n) (ha : AtW w a ts) :
    Calls Try.prog 86 #[.slice a n c] w fun e w' => ∃ g, e = .returned (.slice (some ⟨g, 0, none⟩) n n) ∧ OwnT w' w.heap.size w'.heap.size (some ⟨g, 0, none⟩) n n ts ∧ Below w.heap.size w w' :=
  (toWeightedS_any a n c ts w hs.1 hs.n hs.row ha).mono fun _ _ ⟨g, cs, h1, h2, h3⟩ => ⟨g, h1, ⟨cs, h2⟩, h3⟩
theorem eqTableG (a a' : Option Addr) (n c c' : Nat) (ts : List WRow) (p : Int) (w : World) (hs : SmT ts n) (ha : AtW w a ts) (ha' : AtW w a' ts) :
    Calls Try.prog 36 #[.agg #[.int .i64 p, .slice a n c], .agg #[.int .i64 p, .slice a' n c']] w fun e w' => e = .returned (.bool true) ∧ Below w.heap.size w w' :=
  (eqTable_any a a' n n c c' ts ts p p w hs.1 hs.1 hs.n hs.n hs.row hs.row ha ha').mono fun _ _ ⟨h1, h2⟩ => ⟨by rw [h1, decide_eq_true ⟨rfl, rfl⟩], h2⟩
theorem eqWeightedSG (a a' : Option Addr) (n c c' : Nat) (ts : List WRow) (w : World) (hs : SmT ts n) (ha : AtW w a ts) (ha' : AtW w a' ts) :
    Calls Try.prog 88 #[.slice a n c, .slice a' n c'] w fun e w' => e = .returned (.bool true) ∧ Below w.heap.size w w' :=
  (eqWeightedS_any a a' n n c c' ts ts w hs.1 hs.1 hs.n hs.n hs.row hs.row ha ha').mono fun _ _ ⟨h1, h2⟩ => ⟨by rw [h1, decide_eq_true rfl], h2⟩
theorem markTableG (lo hi : Nat) (a : Option Addr) (n c : Nat) (ts : List WRow) (p m : Int) (w : World) (hs : SmT ts n) (h0 : 0 ≤ m) (h1 : m ≤ 268435456) (ho : OwnT w lo hi a n c ts) :
    Calls Try.prog 38 #[.agg #[.int .i64 p, .slice a n c], .int .i64 m] w fun e w' => e = .returned (.int .i64 (m + wtot ts n)) ∧ OwnT w' lo hi a n c (markW m ts) ∧ Apart lo hi w w' := by
  obtain ⟨cs, ho⟩ := ho
  exact markTable_any lo hi a n c ts p cs m w hs.row hs.2 h0 h1 ho
theorem markWeightedSG (lo hi : Nat) (a : Option Addr) (n c : Nat) (ts : List WRow) (m : Int) (w : World) (hs : SmT ts n) (h0 : 0 ≤ m) (h1 : m ≤ 268435456) (ho : OwnT w lo hi a n c ts) :
    Calls Try.prog 90 #[.slice a n c, .int .i64 m] w fun e w' => e = .returned (.int .i64 (m + wtot ts n)) ∧ OwnT w' lo hi a n c (markW m ts) ∧ Apart lo hi w w' := by
  obtain ⟨cs, ho⟩ := ho
  exact markWeightedS_any lo hi a n c ts cs m w hs.row hs.2 h0 h1 ho
theorem heldTableG (a : Option Addr) (n c : Nat) (ts : List WRow) (p m : Int) (w : World) (hs : SmT ts n) (h0 : 0 ≤ m) (h1 : m ≤ 268435456) (ha : AtW w a (markW m ts)) :
    Calls Try.prog 40 #[.agg #[.int .i64 p, .slice a n c], .int .i64 m] w fun e w' => e = .returned (.int .i64 (m + wtot ts n)) ∧ Below w.heap.size w w' :=
  heldTable_any a n c ts p m w hs.1 hs.row hs.2 h0 h1 ha

theorem wtot_le {ts : List WRow} {M : Nat} (h : ∀ t ∈ ts, t.1.length ≤ M) : ∀ k, k ≤ ts.length → wtot ts k ≤ k * (M + 1) := by
  intro k hk
  induction k with
  | zero => simp [wtot_zero]
  | succ k ih =>
    have h1 := ih (by omega)
    have h2 := h _ (wat_mem (show k < ts.length by omega))
    rw [wtot_succ ts k (by omega), Nat.add_mul]
    omega
theorem goodT_wtot {p : Int} {ts : List WRow} (h : goodT p ts = true) : wtot ts ts.length ≤ 1048576 := by
  have h1 := wtot_le (M := 6) (fun t ht => good_len (goodL_mem (goodL_of_goodT h) t ht).1) ts.length (Nat.le_refl _)
  have h2 := (goodT_parts h).2.1
  omega
/-- What is told is small. -/
theorem ans_small {ok : Bool} {p : Int} {ts : List WRow} (h : ok = true → goodT p ts = true) : SmT (ansT ok ts) (ansT ok ts).length := by
  refine ⟨rfl, ?_⟩
  cases ok with
  | false => simp [ansT, wtot]
  | true => exact goodT_wtot (h rfl)

theorem newB_goodT {p : Int} {l : List WRow} (h : newB p l = true) : goodT p (putAll [] l) = true := by
  simp only [newB, Bool.and_eq_true] at h
  exact h.2.2.2
/-- Outside lo .. hi - 1 a call's new memory is its own. -/
theorem Below.toApart {w w' : World} (h : Below w.heap.size w w') (lo hi : Nat) : Apart lo hi w w' := ⟨h.os, h.tape, h.output, h.size, fun k hk _ => h.block k hk⟩


theorem set2_heap {w : World} {g : Nat} {x y : Value} {t : TypeId} (h : w.heap[g]? = some (.cells #[x, y] t (0, 0))) (u v : Value) : ((w.setCell ⟨g, 0, none⟩ u).setCell ⟨g, 1, none⟩ v).heap[g]? = some (.cells #[u, v] t (0, 0)) := by
  have h1 := heap_setCell_same w g 0 _ t u h
  have h2 := heap_setCell_same _ g 1 _ t v h1
  rw [h2]; rfl
theorem set2_0 {w : World} {g : Nat} {x y : Value} {t : TypeId} (h : w.heap[g]? = some (.cells #[x, y] t (0, 0))) (u v : Value) : ((w.setCell ⟨g, 0, none⟩ u).setCell ⟨g, 1, none⟩ v).cell? ⟨g, 0, none⟩ = some u := by
  rw [cell_of_row _ _ 0 _ _ (0, 0) (set2_heap h u v)]; rfl
theorem set2_1 {w : World} {g : Nat} {x y : Value} {t : TypeId} (h : w.heap[g]? = some (.cells #[x, y] t (0, 0))) (u v : Value) : ((w.setCell ⟨g, 0, none⟩ u).setCell ⟨g, 1, none⟩ v).cell? ⟨g, 1, none⟩ = some v := by
  rw [cell_of_row _ _ 1 _ _ (0, 0) (set2_heap h u v)]; rfl
theorem OwnT.set2 {w : World} {lo hi g : Nat} {a : Option Addr} {n c : Nat} {ts : List WRow} (h : OwnT w lo hi a n c ts) (hg : g < lo ∨ hi ≤ g) (u v : Value) : OwnT ((w.setCell ⟨g, 0, none⟩ u).setCell ⟨g, 1, none⟩ v) lo hi a n c ts := by
  obtain ⟨cs, h⟩ := h
  exact ⟨cs, (OwnWk.setCell h (a0 := ⟨g, 0, none⟩) hg u).setCell (a0 := ⟨g, 1, none⟩) hg v⟩

end Go.Proofs.Ytmkhdocjabflkaa

/- Plain facts on slices of tables: what lies in memory, what a call owns, what the laws mark. -/
namespace Go.Proofs.Ytmkhdocjabflkaa
open Go.RowKit

/-- A table: its columns and its rows. -/
abbrev Tab := Int × List WRow
abbrev tat (ss : List Tab) (i : Nat) : Tab := ss.getD i (0, [])
theorem tat_mem {ss : List Tab} {i : Nat} (h : i < ss.length) : tat ss i ∈ ss := by
  rw [show tat ss i = ss[i] by simp [tat, List.getD, h]]; exact List.getElem_mem h
theorem tat_left {ss ss' : List Tab} {i : Nat} (h : i < ss.length) : tat (ss ++ ss') i = tat ss i := by simp [tat, List.getD, List.getElem?_append_left h]
theorem tat_last (ss : List Tab) (t : Tab) : tat (ss ++ [t]) ss.length = t := by simp [tat, List.getD]

/-- A slice of tables with the address a holds ss in the world w. -/
def AtSW (w : World) (a : Option Addr) (ss : List Tab) : Prop :=
  ss = [] ∨ ∃ b off, a = some ⟨b, off, none⟩ ∧ ∀ i, i < ss.length → ∃ a' c', w.cell? ⟨b, off + i * 2, none⟩ = some (.int .i64 (tat ss i).1) ∧ w.cell? ⟨b, off + i * 2 + 1, none⟩ = some (.slice a' (tat ss i).2.length c') ∧
    (tat ss i).2.length ≤ 9223372036854775807 ∧ AtW w a' (tat ss i).2
/-- The same, as a function reads it that hands its rows on. -/
def AtSM (w : World) (a : Option Addr) (ss : List Tab) : Prop :=
  ss = [] ∨ ∃ b off, a = some ⟨b, off, none⟩ ∧ ∀ i, i < ss.length → ∃ a' c', w.cell? ⟨b, off + i * 2, none⟩ = some (.int .i64 (tat ss i).1) ∧ w.cell? ⟨b, off + i * 2 + 1, none⟩ = some (.slice a' (tat ss i).2.length c') ∧
    (tat ss i).2.length ≤ 9223372036854775807 ∧ Formed a' (tat ss i).2.length c' ∧ AtM w a' (tat ss i).2

theorem AtSW.below {w w' : World} {a : Option Addr} {ss : List Tab} (h : AtSW w a ss) (hb : Below w.heap.size w w') : AtSW w' a ss := by
  rcases h with h | ⟨b, off, rfl, hc⟩
  · exact .inl h
  · refine .inr ⟨b, off, rfl, fun i hi => ?_⟩
    obtain ⟨a', c', h1, h2, h3, h4⟩ := hc i hi
    exact ⟨a', c', cell_later hb h1, cell_later hb h2, h3, h4.below hb⟩
theorem AtSW.alloc {w : World} {a : Option Addr} {ss : List Tab} (h : AtSW w a ss) (o : Obj) : AtSW (w.alloc o) a ss := h.below ((Below.refl _ _).alloc (Nat.le_refl _) o)
theorem AtSW.some {w : World} {a : Option Addr} {ss : List Tab} (h : AtSW w a ss) (hp : 0 < ss.length) :
    ∃ b off, a = Option.some ⟨b, off, none⟩ ∧ ∀ i, i < ss.length → ∃ a' c', w.cell? ⟨b, off + i * 2, none⟩ = Option.some (.int .i64 (tat ss i).1) ∧ w.cell? ⟨b, off + i * 2 + 1, none⟩ = Option.some (.slice a' (tat ss i).2.length c') ∧
      (tat ss i).2.length ≤ 9223372036854775807 ∧ AtW w a' (tat ss i).2 := by
  rcases h with rfl | h
  · simp at hp
  · exact h
theorem AtSM.below {w w' : World} {a : Option Addr} {ss : List Tab} (h : AtSM w a ss) (hb : Below w.heap.size w w') : AtSM w' a ss := by
  rcases h with h | ⟨b, off, rfl, hc⟩
  · exact .inl h
  · refine .inr ⟨b, off, rfl, fun i hi => ?_⟩
    obtain ⟨a', c', h1, h2, h3, h5, h4⟩ := hc i hi
    exact ⟨a', c', cell_later hb h1, cell_later hb h2, h3, h5, h4.below hb⟩
theorem AtSM.alloc {w : World} {a : Option Addr} {ss : List Tab} (h : AtSM w a ss) (o : Obj) : AtSM (w.alloc o) a ss := h.below ((Below.refl _ _).alloc (Nat.le_refl _) o)
theorem AtSM.drew {w : World} {a : Option Addr} {ss : List Tab} (h : AtSM w a ss) : AtSM w.drew a ss := h.below (Below.refl _ _).drew
theorem AtSM.some {w : World} {a : Option Addr} {ss : List Tab} (h : AtSM w a ss) (hp : 0 < ss.length) :
    ∃ b off, a = Option.some ⟨b, off, none⟩ ∧ ∀ i, i < ss.length → ∃ a' c', w.cell? ⟨b, off + i * 2, none⟩ = Option.some (.int .i64 (tat ss i).1) ∧ w.cell? ⟨b, off + i * 2 + 1, none⟩ = Option.some (.slice a' (tat ss i).2.length c') ∧
      (tat ss i).2.length ≤ 9223372036854775807 ∧ Formed a' (tat ss i).2.length c' ∧ AtM w a' (tat ss i).2 := by
  rcases h with rfl | h
  · simp at hp
  · exact h
theorem AtSM.atSW {w : World} {a : Option Addr} {ss : List Tab} (h : AtSM w a ss) : AtSW w a ss := by
  rcases h with h | ⟨b, off, rfl, hc⟩
  · exact .inl h
  · refine .inr ⟨b, off, rfl, fun i hi => ?_⟩
    obtain ⟨a', c', h1, h2, h3, _, h4⟩ := hc i hi
    exact ⟨a', c', h1, h2, h3, h4.atW⟩

/-- How many marks the first k tables take: one for the columns, and those of the rows. -/
def stot (ss : List Tab) (k : Nat) : Nat := ((ss.take k).map fun t => wtot t.2 t.2.length + 1).sum
theorem stot_zero (ss : List Tab) : stot ss 0 = 0 := rfl
theorem stot_succ (ss : List Tab) (k : Nat) (h : k < ss.length) : stot ss (k + 1) = stot ss k + (wtot (tat ss k).2 (tat ss k).2.length + 1) := by
  unfold stot
  rw [List.take_succ_eq_append_getElem h, List.map_append, List.sum_append]
  simp only [List.map_cons, List.map_nil, List.sum_cons, List.sum_nil, Nat.add_zero]
  simp [h]
theorem stot_grow (ss : List Tab) (j d : Nat) (h : j + d ≤ ss.length) : stot ss j + d ≤ stot ss (j + d) := by
  induction d with
  | zero => exact Nat.le_refl _
  | succ d ih => rw [show j + (d + 1) = (j + d) + 1 from rfl, stot_succ ss _ (by omega)]; have := ih (by omega); omega
theorem stot_mono (ss : List Tab) (j k : Nat) (h : j ≤ k) (hk : k ≤ ss.length) : stot ss j + (k - j) ≤ stot ss k := by
  have := stot_grow ss j (k - j) (by omega)
  rwa [show j + (k - j) = k by omega] at this
theorem stot_len (ss : List Tab) (k : Nat) (h : k ≤ ss.length) : k ≤ stot ss k := by have := stot_mono ss 0 k (by omega) h; rw [stot_zero] at this; omega
theorem stot_each (ss : List Tab) (n : Nat) (hn : ss.length = n) (i : Nat) (hi : i < n) : wtot (tat ss i).2 (tat ss i).2.length + 1 ≤ stot ss n := by
  have h1 := stot_succ ss i (by omega)
  have h2 := stot_mono ss (i + 1) n (by omega) (by omega)
  omega

/-- A list of tables that the laws' bound allows. -/
def SmU (ss : List Tab) (n : Nat) : Prop := ss.length = n ∧ stot ss n ≤ 1048576
theorem SmU.n {ss : List Tab} {n : Nat} (h : SmU ss n) : n ≤ 1048576 := by have := stot_len ss n (by have := h.1; omega); have := h.2; omega
theorem SmU.tab {ss : List Tab} {n : Nat} (h : SmU ss n) (i : Nat) (hi : i < n) : SmT (tat ss i).2 (tat ss i).2.length := ⟨rfl, by have := stot_each ss n h.1 i hi; have := h.2; omega⟩

section
variable {w w' : World} {lo hi : Nat} {a : Option Addr} {n c : Nat} {ts : List WRow}
theorem OwnT.kept {row : Option Nat} (h : OwnT w lo hi a n c ts) (hg : w.grownBy w' row) (hr : ∀ k, row = some k → k < lo ∨ hi ≤ k) : OwnT w' lo hi a n c ts := by obtain ⟨cs, h⟩ := h; exact ⟨cs, OwnWk.kept h hg hr⟩
theorem OwnT.setCell {a0 : Addr} (h : OwnT w lo hi a n c ts) (ha : a0.block < lo ∨ hi ≤ a0.block) (v : Value) : OwnT (w.setCell a0 v) lo hi a n c ts := by obtain ⟨cs, h⟩ := h; exact ⟨cs, OwnWk.setCell h ha v⟩
theorem OwnT.widen {lo' hi' : Nat} (h : OwnT w lo hi a n c ts) (h1 : lo' ≤ lo) (h2 : hi ≤ hi') (h3 : hi' ≤ w.heap.size) : OwnT w lo' hi' a n c ts := by obtain ⟨cs, h⟩ := h; exact ⟨cs, OwnWk.widen h h1 h2 h3⟩
theorem OwnT.top (h : OwnT w lo hi a n c ts) : hi ≤ w.heap.size := by obtain ⟨cs, h⟩ := h; exact h.top
end

/-- A slice of tables that the call itself made, its first k tables laid: each table's blocks lie from L i on and below H i, none among another one's. -/
structure OwnUk (w : World) (lo hi : Nat) (a : Option Addr) (n c : Nat) (ss : List Tab) (cells : List Value) (L H : Nat → Nat) (k : Nat) : Prop where
  len : ss.length = n
  top : hi ≤ w.heap.size
  outer : w.ownsRow lo 25 2 (.slice a n c) n cells
  outerLt : ∀ b, (Value.slice a n c).ownBlock = some b → b < hi
  row : ∀ i, i < k → ∃ a' c', cells[i * 2]? = some (.int .i64 (tat ss i).1) ∧ cells[i * 2 + 1]? = some (.slice a' (tat ss i).2.length c') ∧ OwnT w (L i) (H i) a' (tat ss i).2.length c' (tat ss i).2
  within : ∀ i, i < k → lo ≤ L i ∧ H i ≤ hi
  out : ∀ i, i < k → ∀ b, (Value.slice a n c).ownBlock = some b → b < L i ∨ H i ≤ b
  apart : ∀ i j, i < k → j < k → i ≠ j → H i ≤ L j ∨ H j ≤ L i
def OwnU (w : World) (lo hi : Nat) (a : Option Addr) (n c : Nat) (ss : List Tab) : Prop := ∃ cells L H, OwnUk w lo hi a n c ss cells L H n

section
variable {w w' : World} {lo hi : Nat} {a : Option Addr} {n c k : Nat} {ss : List Tab} {cells : List Value} {L H : Nat → Nat}

theorem OwnUk.below (h : OwnUk w lo hi a n c ss cells L H k) (hb : Below w.heap.size w w') : OwnUk w' lo hi a n c ss cells L H k :=
  ⟨h.len, Nat.le_trans h.top hb.size, owns_below h.outer hb, h.outerLt, fun i hi => by obtain ⟨a', c', h1, h2, h3⟩ := h.row i hi; exact ⟨a', c', h1, h2, h3.below hb⟩, h.within, h.out, h.apart⟩
theorem OwnUk.widen {lo' hi' : Nat} (h : OwnUk w lo hi a n c ss cells L H k) (h1 : lo' ≤ lo) (h2 : hi ≤ hi') (h3 : hi' ≤ w.heap.size) : OwnUk w lo' hi' a n c ss cells L H k :=
  ⟨h.len, h3, owns_mono h.outer h1, fun b hb => Nat.lt_of_lt_of_le (h.outerLt b hb) h2, h.row, fun i hi => by have := h.within i hi; omega, h.out, h.apart⟩
theorem OwnUk.blocks (h : OwnUk w lo hi a n c ss cells L H k) : ∀ b, (Value.slice a n c).ownBlock = some b → lo ≤ b ∧ b < hi := fun b hb => ⟨(h.outer.lt b hb).1, h.outerLt b hb⟩
theorem OwnUk.apartW {lo' hi' : Nat} (h : OwnUk w lo hi a n c ss cells L H k) (hp : Apart lo' hi' w w') (hd : hi ≤ lo' ∨ hi' ≤ lo) : OwnUk w' lo hi a n c ss cells L H k := by
  have hB := h.blocks
  refine ⟨h.len, Nat.le_trans h.top hp.size, hp.owns h.outer (fun k hk => by have := hB k hk; omega), h.outerLt, fun i hi => ?_, h.within, h.out, h.apart⟩
  obtain ⟨a', c', k1, k2, k3⟩ := h.row i hi
  have := h.within i hi
  exact ⟨a', c', k1, k2, k3.apartW hp (by omega)⟩
theorem OwnUk.kept {row : Option Nat} (h : OwnUk w lo hi a n c ss cells L H k) (hg : w.grownBy w' row) (hr : ∀ k, row = some k → k < lo ∨ hi ≤ k) : OwnUk w' lo hi a n c ss cells L H k := by
  have hB := h.blocks
  refine ⟨h.len, Nat.le_trans h.top hg.size, h.outer.kept hg ?_, h.outerLt, fun i hi => ?_, h.within, h.out, h.apart⟩
  · cases hv : (Value.slice a n c).ownBlock with
    | none => exact .inl rfl
    | some k => exact .inr (fun e => by have := hr k e.symm; have := hB k hv; omega)
  · obtain ⟨a', c', k1, k2, k3⟩ := h.row i hi
    have := h.within i hi
    exact ⟨a', c', k1, k2, k3.kept hg (fun b hb => by have := hr b hb; omega)⟩
theorem OwnUk.setCell {a0 : Addr} (h : OwnUk w lo hi a n c ss cells L H k) (ha : a0.block < lo ∨ hi ≤ a0.block) (v : Value) : OwnUk (w.setCell a0 v) lo hi a n c ss cells L H k :=
  h.kept (row := some a0.block) ⟨rfl, rfl, rfl, by simp [World.setCell], fun k _ hn => Below.heap_setCell w a0 v k (fun e => hn (by rw [e]))⟩ (fun k hk => by simp at hk; omega)

theorem OwnUk.start (hl : ss.length = n) (hh : hi ≤ w.heap.size) (ho : w.ownsRow lo 25 2 (.slice a n c) n cells) (hb : ∀ b, (Value.slice a n c).ownBlock = some b → b < hi) : OwnUk w lo hi a n c ss cells L H 0 :=
  ⟨hl, hh, ho, hb, fun i h => by omega, fun i h => by omega, fun i h => by omega, fun i j h => by omega⟩

theorem OwnUk.atSM (h : OwnUk w lo hi a n c ss cells L H n) (hs : SmU ss n) : AtSM w a ss := by
  rcases h.outer.2 with ⟨hv, h0⟩ | ⟨g, cap, cur, hv, _⟩
  · left
    have := h.len
    rw [h0] at this
    exact List.eq_nil_of_length_eq_zero this
  · simp only [Value.slice.injEq, true_and] at hv
    obtain ⟨rfl, rfl⟩ := hv
    refine .inr ⟨g, 0, rfl, fun i hi => ?_⟩
    rw [h.len] at hi
    obtain ⟨a', c', k1, k2, k3⟩ := h.row i hi
    have hl := h.outer.1
    have ht := hs.tab i hi
    refine ⟨a', c', ?_, ?_, by have := ht.n; omega, k3.formed, k3.atM ht⟩
    · rw [Nat.zero_add, h.outer.cellAt _ (by omega)]; exact k1
    · rw [Nat.zero_add, h.outer.cellAt _ (by omega)]; exact k2

/-- One more table is laid. -/
theorem OwnUk.put {w2 : World} {g m c' : Nat} {a' : Option Addr} {p : Int} (h : OwnUk w lo hi (some ⟨g, 0, none⟩) n c ss cells L H k) (hb : Below w.heap.size w w2) (hk : k < n)
    (hm : (tat ss k).2.length = m) (hx : (tat ss k).1 = p) (hlo : lo ≤ w.heap.size) (hrow : OwnT w2 w.heap.size w2.heap.size a' m c' (tat ss k).2) :
    OwnUk ((w2.setCell ⟨g, k * 2, none⟩ (.int .i64 p)).setCell ⟨g, k * 2 + 1, none⟩ (.slice a' m c')) lo w2.heap.size (some ⟨g, 0, none⟩) n c ss ((cells.set (k * 2) (.int .i64 p)).set (k * 2 + 1) (.slice a' m c'))
      (fun i => if i < k then L i else w.heap.size) (fun i => if i < k then H i else w2.heap.size) (k + 1) := by
  have h2 := h.below hb
  have hz := hb.size
  have hgl : lo ≤ g ∧ g < hi := h.blocks g rfl
  have htop := h.top
  have hl := h.outer.1
  have hset : ∀ i, i < k → ∀ d, d < 2 → ((cells.set (k * 2) (.int .i64 p)).set (k * 2 + 1) (.slice a' m c'))[i * 2 + d]? = cells[i * 2 + d]? := fun i hi d hd => by
    rw [List.getElem?_set_ne (by omega), List.getElem?_set_ne (by omega)]
  refine ⟨h.len, by simp [World.setCell], owns_two h2.outer _ _ _ _, fun b hb' => ?_, fun i hi => ?_, fun i hi => ?_, fun i hi b hb' => ?_, fun i j hi hj hij => ?_⟩
  · have := h.outerLt b hb'
    omega
  · by_cases e : i = k
    · subst e
      refine ⟨a', c', ?_, ?_, ?_⟩
      · rw [List.getElem?_set_ne (by omega), List.getElem?_set_self (by omega), hx]
      · rw [hm, List.getElem?_set_self (by simp; omega)]
      · simp only [Nat.lt_irrefl, if_false]
        rw [hm]
        exact (hrow.setCell (a0 := ⟨g, i * 2, none⟩) (.inl (by show g < _; omega)) _).setCell (a0 := ⟨g, i * 2 + 1, none⟩) (.inl (by show g < _; omega)) _
    · have hi' : i < k := by omega
      obtain ⟨a1, c1, k1, k2, k3⟩ := h2.row i hi'
      have ho := h2.out i hi' g rfl
      have e0 := hset i hi' 0 (by omega)
      have e1 := hset i hi' 1 (by omega)
      simp only [Nat.add_zero] at e0
      simp only [if_pos hi']
      exact ⟨a1, c1, by rw [e0]; exact k1, by rw [e1]; exact k2, (k3.setCell (a0 := ⟨g, k * 2, none⟩) ho _).setCell (a0 := ⟨g, k * 2 + 1, none⟩) ho _⟩
  · by_cases e : i = k
    · subst e; simp only [Nat.lt_irrefl, if_false]; omega
    · simp only [if_pos (show i < k by omega)]
      have := h.within i (by omega)
      omega
  · have hgb : g = b := by simpa [Value.ownBlock] using hb'
    by_cases e : i = k
    · subst e; simp only [Nat.lt_irrefl, if_false]; omega
    · simp only [if_pos (show i < k by omega)]
      exact h.out i (by omega) b hb'
  · by_cases e : i = k
    · subst e
      simp only [Nat.lt_irrefl, if_false, if_pos (show j < i by omega)]
      have := h.within j (by omega)
      omega
    · simp only [if_pos (show i < k by omega)]
      by_cases e2 : j = k
      · subst e2
        simp only [Nat.lt_irrefl, if_false]
        have := h.within i (by omega)
        omega
      · simp only [if_pos (show j < k by omega)]
        exact h.apart i j (by omega) (by omega) hij

/-- One more table at the slice's end. -/
theorem OwnUk.pushed {w2 w3 w4 : World} {m c' g cap : Nat} {a' : Option Addr} {p : Int} {ts : List WRow} (h : OwnUk w lo hi a n c ss cells L H n) (hlo : lo ≤ w.heap.size) (hb : Below w.heap.size w w2)
    (hm : ts.length = m) (hrow : OwnT w2 w.heap.size w2.heap.size a' m c' ts) (hb3 : Below w2.heap.size w2 w3)
    (hown : w4.ownsRow lo 25 2 (.slice (some ⟨g, 0, none⟩) (n + 1) cap) (n + 1) (cells ++ [.int .i64 p, .slice a' m c'])) (hgr : w3.grownBy w4 (Value.slice a n c).ownBlock)
    (hat : (Value.slice a n c).ownBlock = some g ∨ w2.heap.size ≤ g) (hlt : g < w4.heap.size) :
    OwnUk w4 lo w4.heap.size (some ⟨g, 0, none⟩) (n + 1) cap (ss ++ [(p, ts)]) (cells ++ [.int .i64 p, .slice a' m c']) (fun i => if i < n then L i else w.heap.size) (fun i => if i < n then H i else w2.heap.size) (n + 1) := by
  have hz := h.len
  have hl := h.outer.1
  have hz2 := hb.size
  have hz3 := hb3.size
  have hz4 := hgr.size
  have htop := h.top
  have hL : ∀ i, i < n → (cells ++ [.int .i64 p, .slice a' m c'])[i * 2]? = cells[i * 2]? ∧ (cells ++ [.int .i64 p, .slice a' m c'])[i * 2 + 1]? = cells[i * 2 + 1]? := fun i hi =>
    ⟨List.getElem?_append_left (by omega), List.getElem?_append_left (by omega)⟩
  have hN0 : (cells ++ [.int .i64 p, .slice a' m c'])[n * 2]? = some (.int .i64 p) := by
    rw [List.getElem?_append_right (by omega), show n * 2 - cells.length = 0 by omega]; rfl
  have hN1 : (cells ++ [.int .i64 p, .slice a' m c'])[n * 2 + 1]? = some (.slice a' m c') := by
    rw [List.getElem?_append_right (by omega), show n * 2 + 1 - cells.length = 1 by omega]; rfl
  have hB := h.blocks
  refine ⟨by simp [hz], Nat.le_refl _, hown, fun b hb' => by simp [Value.ownBlock] at hb'; omega, fun i hi => ?_, fun i hi => ?_, fun i hi b hb' => ?_, fun i j hi hj hij => ?_⟩
  · by_cases e : i = n
    · subst e
      rw [show tat (ss ++ [(p, ts)]) i = (p, ts) by rw [← hz]; exact tat_last ss _]
      simp only [Nat.lt_irrefl, if_false, hm]
      exact ⟨a', c', hN0, hN1, (hrow.below hb3).kept hgr (fun b hb' => by have := hB b hb'; omega)⟩
    · have hi' : i < n := by omega
      obtain ⟨a1, c1, k1, k2, k3⟩ := h.row i hi'
      rw [tat_left (by omega)]
      simp only [if_pos hi']
      exact ⟨a1, c1, by rw [(hL i hi').1]; exact k1, by rw [(hL i hi').2]; exact k2, ((k3.below hb).below hb3).kept hgr (h.out i hi')⟩
  · by_cases e : i = n
    · subst e; simp only [Nat.lt_irrefl, if_false]; omega
    · simp only [if_pos (show i < n by omega)]
      have := h.within i (by omega)
      omega
  · have hgb : g = b := by simpa [Value.ownBlock] using hb'
    subst hgb
    by_cases e : i = n
    · subst e
      simp only [Nat.lt_irrefl, if_false]
      rcases hat with h' | h'
      · have := hB g h'; omega
      · omega
    · simp only [if_pos (show i < n by omega)]
      have := h.within i (by omega)
      rcases hat with h' | h'
      · exact h.out i (by omega) g h'
      · omega
  · by_cases e : i = n
    · subst e
      simp only [Nat.lt_irrefl, if_false, if_pos (show j < i by omega)]
      have := h.within j (by omega)
      omega
    · simp only [if_pos (show i < n by omega)]
      by_cases e2 : j = n
      · subst e2
        simp only [Nat.lt_irrefl, if_false]
        have := h.within i (by omega)
        omega
      · simp only [if_pos (show j < n by omega)]
        exact h.apart i j (by omega) (by omega) hij
end

theorem Apart.widen {lo hi lo' hi' : Nat} {w w' : World} (h : Apart lo hi w w') (h1 : lo' ≤ lo) (h2 : hi ≤ hi') : Apart lo' hi' w w' := ⟨h.os, h.tape, h.output, h.size, fun k hk hd => h.block k hk (by omega)⟩

/-- The first k tables as the laws mark them, the others as they were. -/
def mixU (m : Int) (ss : List Tab) (k : Nat) : List Tab := (List.range ss.length).map fun i => if i < k then (m + stot ss i, markW (m + stot ss i + 1) (tat ss i).2) else tat ss i
/-- The tables as the laws mark them, from m on. -/
def markU (m : Int) (ss : List Tab) : List Tab := (List.range ss.length).map fun i => (m + stot ss i, markW (m + stot ss i + 1) (tat ss i).2)
theorem markU_length (m : Int) (ss : List Tab) : (markU m ss).length = ss.length := by simp [markU]
theorem markU_at (m : Int) (ss : List Tab) (i : Nat) (h : i < ss.length) : tat (markU m ss) i = (m + stot ss i, markW (m + stot ss i + 1) (tat ss i).2) := by simp [markU, h]
theorem mixU_length (m : Int) (ss : List Tab) (k : Nat) : (mixU m ss k).length = ss.length := by simp [mixU]
theorem mixU_at (m : Int) (ss : List Tab) (k i : Nat) (h : i < ss.length) : tat (mixU m ss k) i = if i < k then (m + stot ss i, markW (m + stot ss i + 1) (tat ss i).2) else tat ss i := by simp [mixU, h]
theorem mixU_zero (m : Int) (ss : List Tab) : mixU m ss 0 = ss := by
  apply List.ext_getElem?
  intro i
  by_cases h : i < ss.length
  · simp [mixU, h]
  · simp [mixU, h]
theorem mixU_all (m : Int) (ss : List Tab) : mixU m ss ss.length = markU m ss := by
  unfold mixU markU
  exact List.map_congr_left fun i hi => if_pos (List.mem_range.1 hi)

theorem OwnUk.marked {w w2 : World} {lo hi : Nat} {g n c k l : Nat} {ss : List Tab} {cells : List Value} {L H : Nat → Nat} {m v : Int} {a' : Option Addr} {c' : Nat} (h : OwnUk w lo hi (some ⟨g, 0, none⟩) n c (mixU m ss k) cells L H n) (hz : ss.length = n) (hk : k < n)
    (hl : (tat ss k).2.length = l) (hv : m + stot ss k = v) (hcell : cells[k * 2 + 1]? = some (.slice a' l c')) (hrow : OwnT w2 (L k) (H k) a' l c' (markW (v + 1) (tat ss k).2)) (hg : Apart (L k) (H k) (w.setCell ⟨g, k * 2, none⟩ (.int .i64 v)) w2) :
    OwnUk w2 lo hi (some ⟨g, 0, none⟩) n c (mixU m ss (k + 1)) (cells.set (k * 2) (.int .i64 v)) L H n := by
  have hl2 := h.outer.1
  have hgk := h.out k hk g rfl
  have hw := h.within
  have ho1 : (w.setCell ⟨g, k * 2, none⟩ (.int .i64 v)).ownsRow lo 25 2 (.slice (some ⟨g, 0, none⟩) n c) n (cells.set (k * 2) (.int .i64 v)) := (h.outer.stored _ _).1
  refine ⟨by rw [mixU_length]; exact hz, by have := h.top; have := hg.size; simp [World.setCell] at this; omega, hg.owns ho1 (fun b hb => ?_), h.outerLt, fun i hi => ?_, h.within, h.out, h.apart⟩
  · have hgb : g = b := by simpa [Value.ownBlock] using hb
    omega
  · by_cases e : i = k
    · subst e
      rw [mixU_at m ss (i + 1) i (by omega), if_pos (by omega)]
      refine ⟨a', c', ?_, ?_, ?_⟩
      · rw [List.getElem?_set_self (by omega), hv]
      · rw [List.getElem?_set_ne (by omega)]; simp only [markW_length, hl]; exact hcell
      · simp only [markW_length, hl]; rw [hv]; exact hrow
    · obtain ⟨a1, c1, k1, k2, k3⟩ := h.row i hi
      have hm1 : tat (mixU m ss (k + 1)) i = tat (mixU m ss k) i := by
        rw [mixU_at m ss (k + 1) i (by omega), mixU_at m ss k i (by omega)]
        by_cases e1 : i < k
        · rw [if_pos e1, if_pos (by omega)]
        · rw [if_neg e1, if_neg (by omega)]
      rw [hm1]
      have hoi := h.out i hi g rfl
      have hap := h.apart i k hi hk e
      exact ⟨a1, c1, by rw [List.getElem?_set_ne (by omega)]; exact k1, by rw [List.getElem?_set_ne (by omega)]; exact k2, (k3.setCell (a0 := ⟨g, k * 2, none⟩) hoi _).apartW hg hap⟩

section
variable {w w' : World} {lo hi : Nat} {a : Option Addr} {n c : Nat} {ss : List Tab}
theorem OwnU.below (h : OwnU w lo hi a n c ss) (hb : Below w.heap.size w w') : OwnU w' lo hi a n c ss := by obtain ⟨cs, L, H, h⟩ := h; exact ⟨cs, L, H, h.below hb⟩
theorem OwnU.apartW {lo' hi' : Nat} (h : OwnU w lo hi a n c ss) (hp : Apart lo' hi' w w') (hd : hi ≤ lo' ∨ hi' ≤ lo) : OwnU w' lo hi a n c ss := by obtain ⟨cs, L, H, h⟩ := h; exact ⟨cs, L, H, h.apartW hp hd⟩
theorem OwnU.atM (h : OwnU w lo hi a n c ss) (hs : SmU ss n) : AtSM w a ss := by obtain ⟨cs, L, H, h⟩ := h; exact h.atSM hs
theorem OwnU.atSW (h : OwnU w lo hi a n c ss) (hs : SmU ss n) : AtSW w a ss := (h.atM hs).atSW
theorem OwnU.len (h : OwnU w lo hi a n c ss) : ss.length = n := by obtain ⟨cs, L, H, h⟩ := h; exact h.len
theorem OwnU.widen {lo' hi' : Nat} (h : OwnU w lo hi a n c ss) (h1 : lo' ≤ lo) (h2 : hi ≤ hi') (h3 : hi' ≤ w.heap.size) : OwnU w lo' hi' a n c ss := by obtain ⟨cs, L, H, h⟩ := h; exact ⟨cs, L, H, h.widen h1 h2 h3⟩
theorem OwnU.setCell {a0 : Addr} (h : OwnU w lo hi a n c ss) (ha : a0.block < lo ∨ hi ≤ a0.block) (v : Value) : OwnU (w.setCell a0 v) lo hi a n c ss := by obtain ⟨cs, L, H, h⟩ := h; exact ⟨cs, L, H, h.setCell ha v⟩
theorem OwnU.atMark {m : Int} (h : OwnU w lo hi a n c (markU m ss)) (hs : SmU ss n) : AtSW w a (markU m ss) := by
  obtain ⟨cells, L, H, h⟩ := h
  rcases h.outer.2 with ⟨hv, h0⟩ | ⟨g, cap, cur, hv, _⟩
  · left
    have := h.len
    rw [h0] at this
    exact List.eq_nil_of_length_eq_zero this
  · simp only [Value.slice.injEq, true_and] at hv
    obtain ⟨rfl, rfl⟩ := hv
    refine .inr ⟨g, 0, rfl, fun i hi => ?_⟩
    rw [h.len] at hi
    obtain ⟨a', c', k1, k2, k3⟩ := h.row i hi
    have hl := h.outer.1
    have ht := hs.tab i hi
    rw [markU_at m ss i (by rw [hs.1]; exact hi)] at k1 k2 k3 ⊢
    refine ⟨a', c', ?_, ?_, by simp only [markW_length]; have := ht.n; omega, ?_⟩
    · rw [Nat.zero_add, h.outer.cellAt _ (by omega)]; exact k1
    · rw [Nat.zero_add, h.outer.cellAt _ (by omega)]; exact k2
    · simp only [markW_length] at k3
      exact k3.atMark ht
theorem OwnU.set2 {g : Nat} (h : OwnU w lo hi a n c ss) (hg : g < lo ∨ hi ≤ g) (u v : Value) : OwnU ((w.setCell ⟨g, 0, none⟩ u).setCell ⟨g, 1, none⟩ v) lo hi a n c ss :=
  (h.setCell (a0 := ⟨g, 0, none⟩) hg u).setCell (a0 := ⟨g, 1, none⟩) hg v
theorem OwnU.nil (w : World) (lo : Nat) : OwnU w lo w.heap.size none 0 0 [] := ⟨[], fun _ => 0, fun _ => 0, OwnUk.start rfl (Nat.le_refl _) (World.ownsRow_nil _ _ _ _) (fun b hb => by cases hb)⟩
end

end Go.Proofs.Ytmkhdocjabflkaa
