/- Several texts of one proof, in build order: WSum, LawG, IterP. -/
import Derived.Test.YtaaefdddibdenaaM11
import Derived.Deep.DeepCutAuto
import Derived.Test.YtaaefdddibdenaaM3
import Derived.Test.YtaaefdddibdenaaM2

/- Plain: what is told by summing weights up, and by putting them one by one, is one list. -/
namespace Go.Proofs.Ytaaefdddibdenaa
open Go.RowKit

/-- What a function that tells a table or nothing hands back. -/
def ansP (ok : Bool) (p : Int) : Int := if ok then p else 0
def ansT (ok : Bool) (ts : List WRow) : List WRow := if ok then ts else []
def TabAns (e : Ending) (w' : World) (lo : Nat) (ok : Bool) (p : Int) (ts : List WRow) : Prop := TabRet e w' lo ok (ansP ok p) (ansT ok ts)

theorem TabAns.zero {e : Ending} {w' : World} {lo : Nat} {ok : Bool} {p : Int} {ts : List WRow} (h : ok = false) (he : e = .returned (.tuple #[.agg #[.int .i64 0, .slice none 0 0], .bool false])) : TabAns e w' lo ok p ts := by
  subst h
  exact ⟨none, 0, 0, [], he, OwnWk.start rfl (Nat.le_refl _) (World.ownsRow_nil _ _ _ _) (fun b hb => by cases hb)⟩
theorem TabAns.tell {e : Ending} {w' : World} {lo : Nat} {ok : Bool} {p : Int} {ts : List WRow} (h : ok = goodT p ts) (hr : TabRet e w' lo (goodT p ts) (tellP p ts) (tellT p ts)) : TabAns e w' lo ok p ts := by
  subst h; exact hr

/-- What NewTable tells. -/
def newB (p : Int) (l : List WRow) : Bool := inc p && (decide (l.length ≤ 200) && (goodL p l && goodT p (putAll [] l)))
theorem newB_col {p : Int} {l : List WRow} (h : inc p = false) : newB p l = false := by simp [newB, h]
theorem newB_len {p : Int} {l : List WRow} (h : 200 < l.length) : newB p l = false := by
  have : decide (l.length ≤ 200) = false := by simp; omega
  simp [newB, this]
theorem newB_list {p : Int} {l : List WRow} (h : goodL p l = false) : newB p l = false := by simp [newB, h]
theorem newB_good {p : Int} {l : List WRow} (h1 : inc p = true) (h2 : l.length ≤ 200) (h3 : goodL p l = true) : newB p l = goodT p (putAll [] l) := by simp [newB, h1, h2, h3]

theorem keysTo_mem {ts : List WRow} {k : Nat} {a : List Int} (h : a ∈ keysTo ts k) : ∃ t ∈ ts, a = raised t.1 := by
  unfold keysTo at h
  rw [List.mem_reverse] at h
  obtain ⟨t, ht, rfl⟩ := List.mem_map.1 h
  exact ⟨t, List.mem_of_mem_take ht, rfl⟩
theorem goodL_mem {p : Int} {ts : List WRow} (h : goodL p ts = true) : ∀ t ∈ ts, good t.1 = true ∧ (t.1.length : Int) = p ∧ -1000000 ≤ t.2 ∧ t.2 ≤ 1000000 := fun t ht => goodW_cells (List.all_eq_true.1 h t ht)
theorem keys_list {q : Nat} {ts : List WRow} (h : goodL q ts = true) (k : Nat) : Keys q (keysTo ts k) := fun a ha => by
  obtain ⟨t, ht, rfl⟩ := keysTo_mem ha
  have := goodL_mem h t ht
  exact ⟨t.1, this.1, by omega, rfl⟩
theorem keys_append {q : Nat} {S S' : List (List Int)} (h : Keys q S) (h' : Keys q S') : Keys q (S ++ S') := fun a ha => by
  rcases List.mem_append.1 ha with ha | ha
  · exact h a ha
  · exact h' a ha

theorem Tells.unique {q : Nat} {f : List Int → Int} {ts us : List WRow} (h : Tells q f ts) (k : Tells q f us) : ts = us := by
  refine rises_ext h.rises k.rises h.noZero k.noZero fun zs => ?_
  by_cases e : good zs = true ∧ zs.length = q
  · rw [h.weight zs e.1 e.2, k.weight zs e.1 e.2]
  · rw [wOf_absent fun t ht e' => e (by rw [← e']; exact h.rows t ht), wOf_absent fun t ht e' => e (by rw [← e']; exact k.rows t ht)]

/-- The sum by arrays is the sum by rows. -/
theorem sumAt_sumW {ts : List WRow} {zs : List Int} {n : Nat} (hn : ts.length = n) (times : Int) (hg : ∀ t ∈ ts, good t.1 = true) (hz : good zs = true) : sumAt ts n times (raised zs) = sumW ts zs * times := by
  unfold sumAt sumW
  rw [List.take_of_length_le (by omega)]
  clear hn
  induction ts with
  | nil => simp
  | cons t ts ih =>
    rw [List.map_cons, List.map_cons, List.sum_cons, List.sum_cons, ih fun s hs => hg s (by simp [hs]), Int.add_mul]
    congr 1
    by_cases e : t.1 = zs
    · rw [if_pos e, if_pos (by rw [e])]
    · rw [if_neg e, if_neg (fun h => e (raised_inj (hg t (by simp)) hz h))]; simp

theorem sumW_absent {ts : List WRow} {zs : List Int} (h : ∀ t ∈ ts, t.1 ≠ zs) : sumW ts zs = 0 := by
  unfold sumW
  induction ts with
  | nil => rfl
  | cons t ts ih => rw [List.map_cons, List.sum_cons, if_neg (h t (by simp)), ih fun s hs => h s (by simp [hs])]; rfl
theorem sumW_rises {ts : List WRow} {zs : List Int} (h : Rises ts) : sumW ts zs = wOf ts zs := by
  induction ts with
  | nil => rfl
  | cons t ts ih =>
    obtain ⟨h1, h2⟩ := List.pairwise_cons.1 h
    have e : sumW (t :: ts) zs = (if t.1 = zs then t.2 else 0) + sumW ts zs := by simp [sumW]
    rw [e, ih h2, wOf_cons]
    by_cases e2 : t.1 = zs
    · rw [if_pos e2, if_pos e2, wOf_absent fun s hs e3 => cmp_ne (h1 s hs) (e2.trans e3.symm)]; omega
    · rw [if_neg e2, if_neg e2]; omega

theorem tells_put {q : Nat} {f : List Int → Int} {ts l : List WRow} (hr : Rises ts) (hn : NoZero ts) (hrow : ∀ t ∈ ts, good t.1 = true ∧ t.1.length = q) (hl : ∀ t ∈ l, good t.1 = true ∧ t.1.length = q)
    (hf : ∀ zs, good zs = true → zs.length = q → f (raised zs) = wOf ts zs + sumW l zs) : Tells q f (putAll ts l) where
  rises := putAll_rises hr
  noZero := putAll_nozero hn
  rows := fun t ht => by
    rcases putAll_rows ht with ⟨s, hs, e⟩ | ⟨s, hs, e⟩
    · rw [← e]; exact hrow s hs
    · rw [← e]; exact hl s hs
  weight := fun zs h1 h2 => by rw [putAll_wOf zs hr, hf zs h1 h2]

theorem tells_new {q n : Nat} {ts : List WRow} (hz : ts.length = n) (h : goodL q ts = true) : Tells q (sumAt ts n 1) (putAll [] ts) :=
  tells_put List.Pairwise.nil (fun t ht => by cases ht) (fun t ht => by cases ht) (fun t ht => by have := goodL_mem h t ht; exact ⟨this.1, by omega⟩)
    fun zs h1 _ => by rw [sumAt_sumW hz 1 (fun t ht => (goodL_mem h t ht).1) h1, wOf_nil]; omega

end Go.Proofs.Ytaaefdddibdenaa

/- The laws' helpers over tables in one form: what they make, hold equal, mark, find held. -/
namespace Go.Proofs.Ytaaefdddibdenaa
open Go.RowKit

/-- A list of weighted rows that the laws' bound allows. -/
def SmT (ts : List WRow) (n : Nat) : Prop := ts.length = n ∧ wtot ts n ≤ 1048576
theorem SmT.n {ts : List WRow} {n : Nat} (h : SmT ts n) : n ≤ 1048576 := by have := wtot_len ts n (by have := h.1; omega); have := h.2; omega
theorem SmT.row {ts : List WRow} {n : Nat} (h : SmT ts n) : ∀ i, i < n → (wat ts i).1.length ≤ 1048576 := fun i hi => Nat.le_trans (wtot_each ts n h.1 i hi) h.2
theorem SmT.rowx {ts : List WRow} {n : Nat} (h : SmT ts n) : ∀ i, i < n → (wat ts i).1.length ≤ 9223372036854775807 := fun i hi => Nat.le_trans (h.row i hi) (by decide)

/-- A slice of weighted rows that the call made: all its blocks lie from lo on and below hi. -/
def OwnT (w : World) (lo hi : Nat) (a : Option Addr) (n c : Nat) (ts : List WRow) : Prop := ∃ cells, OwnW w lo hi 89 3 a n c ts cells

section
variable {w w' : World} {lo hi : Nat} {a : Option Addr} {n c : Nat} {ts : List WRow}
theorem OwnT.below (h : OwnT w lo hi a n c ts) (hb : Below w.heap.size w w') : OwnT w' lo hi a n c ts := by obtain ⟨cs, h⟩ := h; exact ⟨cs, h.below hb⟩
theorem OwnT.apartW {lo' hi' : Nat} (h : OwnT w lo hi a n c ts) (hp : Apart lo' hi' w w') (hd : hi ≤ lo' ∨ hi' ≤ lo) : OwnT w' lo hi a n c ts := by obtain ⟨cs, h⟩ := h; exact ⟨cs, h.apartW hp hd⟩
theorem OwnT.atW (h : OwnT w lo hi a n c ts) (hs : SmT ts n) : AtW w a ts := by obtain ⟨cs, h⟩ := h; exact OwnWk.atW h hs.rowx
theorem OwnT.atM (h : OwnT w lo hi a n c ts) (hs : SmT ts n) : AtM w a ts := by obtain ⟨cs, h⟩ := h; exact OwnWk.atM h hs.rowx
theorem OwnT.formed (h : OwnT w lo hi a n c ts) : Formed a n c := by obtain ⟨cs, h⟩ := h; exact owns_formed h.outer
theorem OwnT.len (h : OwnT w lo hi a n c ts) : ts.length = n := by obtain ⟨cs, h⟩ := h; exact h.len
theorem OwnT.atMark {m : Int} (h : OwnT w lo hi a n c (markW m ts)) (hs : SmT ts n) : AtW w a (markW m ts) := by
  obtain ⟨cs, h⟩ := h
  refine OwnWk.atW h fun i hi => ?_
  rw [markW_at m ts i (by have := hs.1; omega)]
  simp only [marks_length]
  exact hs.rowx i hi
end

theorem toTableG (a : Option Addr) (n c : Nat) (ts : List WRow) (p : Int) (w : World) (hs : SmT ts n) (ha : AtW w a ts) :
    Calls Try.prog 14 #[.agg #[.int .i64 p, .slice a n c]] w fun e w' => ∃ g, e = .returned (.agg #[.int .i64 p, .slice (some ⟨g, 0, none⟩) n n]) ∧ OwnT w' w.heap.size w'.heap.size (some ⟨g, 0, none⟩) n n ts ∧ Below w.heap.size w w' :=
  (toTable_any a n c ts p w hs.1 hs.n hs.row ha).mono fun _ _ ⟨g, cs, h1, h2, h3⟩ => ⟨g, h1, ⟨cs, h2⟩, h3⟩
theorem toWeightedSG (a : Option Addr) (n c : Nat) (ts : List WRow) (w : World) (hs : SmT ts n) (ha : AtW w a ts) :
    Calls Try.prog 36 #[.slice a n c] w fun e w' => ∃ g, e = .returned (.slice (some ⟨g, 0, none⟩) n n) ∧ OwnT w' w.heap.size w'.heap.size (some ⟨g, 0, none⟩) n n ts ∧ Below w.heap.size w w' :=
  (toWeightedS_any a n c ts w hs.1 hs.n hs.row ha).mono fun _ _ ⟨g, cs, h1, h2, h3⟩ => ⟨g, h1, ⟨cs, h2⟩, h3⟩
theorem eqTableG (a a' : Option Addr) (n c c' : Nat) (ts : List WRow) (p : Int) (w : World) (hs : SmT ts n) (ha : AtW w a ts) (ha' : AtW w a' ts) :
    Calls Try.prog 16 #[.agg #[.int .i64 p, .slice a n c], .agg #[.int .i64 p, .slice a' n c']] w fun e w' => e = .returned (.bool true) ∧ Below w.heap.size w w' :=
  (eqTable_any a a' n n c c' ts ts p p w hs.1 hs.1 hs.n hs.n hs.row hs.row ha ha').mono fun _ _ ⟨h1, h2⟩ => ⟨by rw [h1, decide_eq_true ⟨rfl, rfl⟩], h2⟩
theorem eqWeightedSG (a a' : Option Addr) (n c c' : Nat) (ts : List WRow) (w : World) (hs : SmT ts n) (ha : AtW w a ts) (ha' : AtW w a' ts) :
    Calls Try.prog 43 #[.slice a n c, .slice a' n c'] w fun e w' => e = .returned (.bool true) ∧ Below w.heap.size w w' :=
  (eqWeightedS_any a a' n n c c' ts ts w hs.1 hs.1 hs.n hs.n hs.row hs.row ha ha').mono fun _ _ ⟨h1, h2⟩ => ⟨by rw [h1, decide_eq_true rfl], h2⟩
theorem markTableG (lo hi : Nat) (a : Option Addr) (n c : Nat) (ts : List WRow) (p m : Int) (w : World) (hs : SmT ts n) (h0 : 0 ≤ m) (h1 : m ≤ 268435456) (ho : OwnT w lo hi a n c ts) :
    Calls Try.prog 17 #[.agg #[.int .i64 p, .slice a n c], .int .i64 m] w fun e w' => e = .returned (.int .i64 (m + wtot ts n)) ∧ OwnT w' lo hi a n c (markW m ts) ∧ Apart lo hi w w' := by
  obtain ⟨cs, ho⟩ := ho
  exact markTable_any lo hi a n c ts p cs m w hs.row hs.2 h0 h1 ho
theorem markWeightedSG (lo hi : Nat) (a : Option Addr) (n c : Nat) (ts : List WRow) (m : Int) (w : World) (hs : SmT ts n) (h0 : 0 ≤ m) (h1 : m ≤ 268435456) (ho : OwnT w lo hi a n c ts) :
    Calls Try.prog 44 #[.slice a n c, .int .i64 m] w fun e w' => e = .returned (.int .i64 (m + wtot ts n)) ∧ OwnT w' lo hi a n c (markW m ts) ∧ Apart lo hi w w' := by
  obtain ⟨cs, ho⟩ := ho
  exact markWeightedS_any lo hi a n c ts cs m w hs.row hs.2 h0 h1 ho
theorem heldTableG (a : Option Addr) (n c : Nat) (ts : List WRow) (p m : Int) (w : World) (hs : SmT ts n) (h0 : 0 ≤ m) (h1 : m ≤ 268435456) (ha : AtW w a (markW m ts)) :
    Calls Try.prog 19 #[.agg #[.int .i64 p, .slice a n c], .int .i64 m] w fun e w' => e = .returned (.int .i64 (m + wtot ts n)) ∧ Below w.heap.size w w' :=
  heldTable_any a n c ts p m w hs.1 hs.row hs.2 h0 h1 ha

theorem wtot_le {ts : List WRow} {M : Nat} (h : ∀ t ∈ ts, t.1.length ≤ M) : ∀ k, k ≤ ts.length → wtot ts k ≤ k * (M + 1) := by
  intro k hk
  induction k with
  | zero => simp [wtot_zero]
  | succ k ih =>
    have h1 := ih (by omega)
    have h2 := h _ (wat_mem (show k < ts.length by omega))
    rw [wtot_succ ts k (by omega), Nat.add_mul]
    omega
theorem goodT_wtot {p : Int} {ts : List WRow} (h : goodT p ts = true) : wtot ts ts.length ≤ 1048576 := by
  have h1 := wtot_le (M := 6) (fun t ht => good_len (goodL_mem (goodL_of_goodT h) t ht).1) ts.length (Nat.le_refl _)
  have h2 := (goodT_parts h).2.1
  omega
/-- What is told is small. -/
theorem ans_small {ok : Bool} {p : Int} {ts : List WRow} (h : ok = true → goodT p ts = true) : SmT (ansT ok ts) (ansT ok ts).length := by
  refine ⟨rfl, ?_⟩
  cases ok with
  | false => simp [ansT, wtot]
  | true => exact goodT_wtot (h rfl)

theorem newB_goodT {p : Int} {l : List WRow} (h : newB p l = true) : goodT p (putAll [] l) = true := by
  simp only [newB, Bool.and_eq_true] at h
  exact h.2.2.2
/-- Outside lo .. hi - 1 a call's new memory is its own. -/
theorem Below.toApart {w w' : World} (h : Below w.heap.size w w') (lo hi : Nat) : Apart lo hi w w' := ⟨h.os, h.tape, h.output, h.size, fun k hk _ => h.block k hk⟩


theorem set2_heap {w : World} {g : Nat} {x y : Value} {t : TypeId} (h : w.heap[g]? = some (.cells #[x, y] t (0, 0))) (u v : Value) : ((w.setCell ⟨g, 0, none⟩ u).setCell ⟨g, 1, none⟩ v).heap[g]? = some (.cells #[u, v] t (0, 0)) := by
  have h1 := heap_setCell_same w g 0 _ t u h
  have h2 := heap_setCell_same _ g 1 _ t v h1
  rw [h2]; rfl
theorem set2_0 {w : World} {g : Nat} {x y : Value} {t : TypeId} (h : w.heap[g]? = some (.cells #[x, y] t (0, 0))) (u v : Value) : ((w.setCell ⟨g, 0, none⟩ u).setCell ⟨g, 1, none⟩ v).cell? ⟨g, 0, none⟩ = some u := by
  rw [cell_of_row _ _ 0 _ _ (0, 0) (set2_heap h u v)]; rfl
theorem set2_1 {w : World} {g : Nat} {x y : Value} {t : TypeId} (h : w.heap[g]? = some (.cells #[x, y] t (0, 0))) (u v : Value) : ((w.setCell ⟨g, 0, none⟩ u).setCell ⟨g, 1, none⟩ v).cell? ⟨g, 1, none⟩ = some v := by
  rw [cell_of_row _ _ 1 _ _ (0, 0) (set2_heap h u v)]; rfl
theorem OwnT.set2 {w : World} {lo hi g : Nat} {a : Option Addr} {n c : Nat} {ts : List WRow} (h : OwnT w lo hi a n c ts) (hg : g < lo ∨ hi ≤ g) (u v : Value) : OwnT ((w.setCell ⟨g, 0, none⟩ u).setCell ⟨g, 1, none⟩ v) lo hi a n c ts := by
  obtain ⟨cs, h⟩ := h
  exact ⟨cs, (OwnWk.setCell h (a0 := ⟨g, 0, none⟩) hg u).setCell (a0 := ⟨g, 1, none⟩) hg v⟩

end Go.Proofs.Ytaaefdddibdenaa

/- Plain: what a function hands out that passes on some of another one's rows. -/
namespace Go.Proofs.Ytaaefdddibdenaa

/-- How many have been handed out when k rows have come. -/
def outW (g : WRow → Option WRow) (xs : List WRow) (k : Nat) : Nat := ((xs.take k).filterMap g).length
theorem outW_zero (g : WRow → Option WRow) (xs : List WRow) : outW g xs 0 = 0 := rfl
theorem outW_all (g : WRow → Option WRow) (xs : List WRow) : outW g xs xs.length = (xs.filterMap g).length := by simp [outW]
theorem outW_none {g : WRow → Option WRow} {xs : List WRow} {k : Nat} (h : k < xs.length) (hg : g (wat xs k) = none) : outW g xs (k + 1) = outW g xs k := by
  unfold outW
  rw [wtake_succ xs k h, List.filterMap_append, List.filterMap_cons, hg]
  simp
theorem outW_some {g : WRow → Option WRow} {xs : List WRow} {k : Nat} {v : WRow} (h : k < xs.length) (hg : g (wat xs k) = some v) :
    outW g xs (k + 1) = outW g xs k + 1 ∧ outW g xs k < (xs.filterMap g).length ∧ wat (xs.filterMap g) (outW g xs k) = v := by
  have e : xs.filterMap g = (xs.take k).filterMap g ++ v :: (xs.drop (k + 1)).filterMap g := by
    have h2 : xs = xs.take k ++ wat xs k :: xs.drop (k + 1) := by
      have h3 := (List.take_append_drop k xs).symm
      rw [List.drop_eq_getElem_cons h] at h3
      rw [show wat xs k = xs[k] by simp [wat, List.getD, h]]
      exact h3
    have h4 := congrArg (List.filterMap g) h2
    rw [List.filterMap_append, List.filterMap_cons, hg] at h4
    exact h4
  refine ⟨?_, ?_, ?_⟩
  · unfold outW
    rw [wtake_succ xs k h, List.filterMap_append, List.filterMap_cons, hg]
    simp
  · rw [e]; unfold outW; simp
  · rw [e]; unfold outW
    simp [wat, List.getD]

end Go.Proofs.Ytaaefdddibdenaa
