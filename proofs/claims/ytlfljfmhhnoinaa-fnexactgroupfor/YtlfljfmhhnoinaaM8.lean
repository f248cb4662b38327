/- Several texts of one proof, in build order: LawG, LawI, RowM, PutV, PlainPick, SortA. -/
import Derived.Deep.DeepCutAuto
import Derived.Test.YtlfljfmhhnoinaaM4
import Derived.Test.YtlfljfmhhnoinaaM5
import Derived.Test.YtlfljfmhhnoinaaM7
import Derived.Test.YtlfljfmhhnoinaaM1
import Derived.Shelf.SlSortCmp.InsertionK

/- The laws' helpers over tables in one form: what they make, hold equal, mark, find held. -/
namespace Go.Proofs.Ytlfljfmhhnoinaa
open Go.RowKit

/-- A list of weighted rows that the laws' bound allows. -/
def SmT (ts : List WRow) (n : Nat) : Prop := ts.length = n ∧ wtot ts n ≤ 1048576
theorem SmT.n {ts : List WRow} {n : Nat} (h : SmT ts n) : n ≤ 1048576 := by have := wtot_len ts n (by have := h.1; omega); have := h.2; omega
theorem SmT.row {ts : List WRow} {n : Nat} (h : SmT ts n) : ∀ i, i < n → (wat ts i).1.length ≤ 1048576 := fun i hi => Nat.le_trans (wtot_each ts n h.1 i hi) h.2
theorem SmT.rowx {ts : List WRow} {n : Nat} (h : SmT ts n) : ∀ i, i < n → (wat ts i).1.length ≤ 9223372036854775807 := fun i hi => Nat.le_trans (h.row i hi) (by decide)

/-- A slice of weighted rows that the call made: all its blocks lie from lo on and below hi. -/
def OwnT (w : World) (lo hi : Nat) (a : Option Addr) (n c : Nat) (ts : List WRow) : Prop := ∃ cells, OwnW w lo hi 80 3 a n c ts cells

section
variable {w w' : World} {lo hi : Nat} {a : Option Addr} {n c : Nat} {ts : List WRow}
theorem OwnT.below (h : OwnT w lo hi a n c ts) (hb : Below w.heap.size w w') : OwnT w' lo hi a n c ts := by obtain ⟨cs, h⟩ := h; exact ⟨cs, h.below hb⟩
theorem OwnT.apartW {lo' hi' : Nat} (h : OwnT w lo hi a n c ts) (hp : Apart lo' hi' w w') (hd : hi ≤ lo' ∨ hi' ≤ lo) : OwnT w' lo hi a n c ts := by obtain ⟨cs, h⟩ := h; exact ⟨cs, h.apartW hp hd⟩
theorem OwnT.atW (h : OwnT w lo hi a n c ts) (hs : SmT ts n) : AtW w a ts := by obtain ⟨cs, h⟩ := h; exact OwnWk.atW h hs.rowx
theorem OwnT.atM (h : OwnT w lo hi a n c ts) (hs : SmT ts n) : AtM w a ts := by obtain ⟨cs, h⟩ := h; exact OwnWk.atM h hs.rowx
theorem OwnT.formed (h : OwnT w lo hi a n c ts) : Formed a n c := by obtain ⟨cs, h⟩ := h; exact owns_formed h.outer
theorem OwnT.len (h : OwnT w lo hi a n c ts) : ts.length = n := by obtain ⟨cs, h⟩ := h; exact h.len
theorem OwnT.atMark {m : Int} (h : OwnT w lo hi a n c (markW m ts)) (hs : SmT ts n) : AtW w a (markW m ts) := by
  obtain ⟨cs, h⟩ := h
  refine OwnWk.atW h fun i hi => ?_
  rw [markW_at m ts i (by have := hs.1; omega)]
  simp only [marks_length]
  exact hs.rowx i hi
end

theorem eqTableG (a a' : Option Addr) (n c c' : Nat) (ts : List WRow) (p : Int) (w : World) (hs : SmT ts n) (ha : AtW w a ts) (ha' : AtW w a' ts) :
    Calls Try.prog 26 #[.agg #[.int .i64 p, .slice a n c], .agg #[.int .i64 p, .slice a' n c']] w fun e w' => e = .returned (.bool true) ∧ Below w.heap.size w w' :=
  (eqTable_any a a' n n c c' ts ts p p w hs.1 hs.1 hs.n hs.n hs.row hs.row ha ha').mono fun _ _ ⟨h1, h2⟩ => ⟨by rw [h1, decide_eq_true ⟨rfl, rfl⟩], h2⟩
theorem eqWeightedSG (a a' : Option Addr) (n c c' : Nat) (ts : List WRow) (w : World) (hs : SmT ts n) (ha : AtW w a ts) (ha' : AtW w a' ts) :
    Calls Try.prog 56 #[.slice a n c, .slice a' n c'] w fun e w' => e = .returned (.bool true) ∧ Below w.heap.size w w' :=
  (eqWeightedS_any a a' n n c c' ts ts w hs.1 hs.1 hs.n hs.n hs.row hs.row ha ha').mono fun _ _ ⟨h1, h2⟩ => ⟨by rw [h1, decide_eq_true rfl], h2⟩
theorem markTableG (lo hi : Nat) (a : Option Addr) (n c : Nat) (ts : List WRow) (p m : Int) (w : World) (hs : SmT ts n) (h0 : 0 ≤ m) (h1 : m ≤ 268435456) (ho : OwnT w lo hi a n c ts) :
    Calls Try.prog 27 #[.agg #[.int .i64 p, .slice a n c], .int .i64 m] w fun e w' => e = .returned (.int .i64 (m + wtot ts n)) ∧ OwnT w' lo hi a n c (markW m ts) ∧ Apart lo hi w w' := by
  obtain ⟨cs, ho⟩ := ho
  exact markTable_any lo hi a n c ts p cs m w hs.row hs.2 h0 h1 ho
theorem markWeightedSG (lo hi : Nat) (a : Option Addr) (n c : Nat) (ts : List WRow) (m : Int) (w : World) (hs : SmT ts n) (h0 : 0 ≤ m) (h1 : m ≤ 268435456) (ho : OwnT w lo hi a n c ts) :
    Calls Try.prog 57 #[.slice a n c, .int .i64 m] w fun e w' => e = .returned (.int .i64 (m + wtot ts n)) ∧ OwnT w' lo hi a n c (markW m ts) ∧ Apart lo hi w w' := by
  obtain ⟨cs, ho⟩ := ho
  exact markWeightedS_any lo hi a n c ts cs m w hs.row hs.2 h0 h1 ho
theorem heldTableG (a : Option Addr) (n c : Nat) (ts : List WRow) (p m : Int) (w : World) (hs : SmT ts n) (h0 : 0 ≤ m) (h1 : m ≤ 268435456) (ha : AtW w a (markW m ts)) :
    Calls Try.prog 28 #[.agg #[.int .i64 p, .slice a n c], .int .i64 m] w fun e w' => e = .returned (.int .i64 (m + wtot ts n)) ∧ Below w.heap.size w w' :=
  heldTable_any a n c ts p m w hs.1 hs.row hs.2 h0 h1 ha

theorem wtot_le {ts : List WRow} {M : Nat} (h : ∀ t ∈ ts, t.1.length ≤ M) : ∀ k, k ≤ ts.length → wtot ts k ≤ k * (M + 1) := by
  intro k hk
  induction k with
  | zero => simp [wtot_zero]
  | succ k ih =>
    have h1 := ih (by omega)
    have h2 := h _ (wat_mem (show k < ts.length by omega))
    rw [wtot_succ ts k (by omega), Nat.add_mul]
    omega
theorem goodT_wtot {p : Int} {ts : List WRow} (h : goodT p ts = true) : wtot ts ts.length ≤ 1048576 := by
  have h1 := wtot_le (M := 6) (fun t ht => good_len (goodL_mem (goodL_of_goodT h) t ht).1) ts.length (Nat.le_refl _)
  have h2 := (goodT_parts h).2.1
  omega
/-- What is told is small. -/
theorem ans_small {ok : Bool} {p : Int} {ts : List WRow} (h : ok = true → goodT p ts = true) : SmT (ansT ok ts) (ansT ok ts).length := by
  refine ⟨rfl, ?_⟩
  cases ok with
  | false => simp [ansT, wtot]
  | true => exact goodT_wtot (h rfl)

theorem newB_goodT {p : Int} {l : List WRow} (h : newB p l = true) : goodT p (putAll [] l) = true := by
  simp only [newB, Bool.and_eq_true] at h
  exact h.2.2.2
/-- Outside lo .. hi - 1 a call's new memory is its own. -/
theorem Below.toApart {w w' : World} (h : Below w.heap.size w w') (lo hi : Nat) : Apart lo hi w w' := ⟨h.os, h.tape, h.output, h.size, fun k hk _ => h.block k hk⟩


theorem set2_heap {w : World} {g : Nat} {x y : Value} {t : TypeId} (h : w.heap[g]? = some (.cells #[x, y] t (0, 0))) (u v : Value) : ((w.setCell ⟨g, 0, none⟩ u).setCell ⟨g, 1, none⟩ v).heap[g]? = some (.cells #[u, v] t (0, 0)) := by
  have h1 := heap_setCell_same w g 0 _ t u h
  have h2 := heap_setCell_same _ g 1 _ t v h1
  rw [h2]; rfl
theorem set2_0 {w : World} {g : Nat} {x y : Value} {t : TypeId} (h : w.heap[g]? = some (.cells #[x, y] t (0, 0))) (u v : Value) : ((w.setCell ⟨g, 0, none⟩ u).setCell ⟨g, 1, none⟩ v).cell? ⟨g, 0, none⟩ = some u := by
  rw [cell_of_row _ _ 0 _ _ (0, 0) (set2_heap h u v)]; rfl
theorem set2_1 {w : World} {g : Nat} {x y : Value} {t : TypeId} (h : w.heap[g]? = some (.cells #[x, y] t (0, 0))) (u v : Value) : ((w.setCell ⟨g, 0, none⟩ u).setCell ⟨g, 1, none⟩ v).cell? ⟨g, 1, none⟩ = some v := by
  rw [cell_of_row _ _ 1 _ _ (0, 0) (set2_heap h u v)]; rfl
theorem OwnT.set2 {w : World} {lo hi g : Nat} {a : Option Addr} {n c : Nat} {ts : List WRow} (h : OwnT w lo hi a n c ts) (hg : g < lo ∨ hi ≤ g) (u v : Value) : OwnT ((w.setCell ⟨g, 0, none⟩ u).setCell ⟨g, 1, none⟩ v) lo hi a n c ts := by
  obtain ⟨cs, h⟩ := h
  exact ⟨cs, (OwnWk.setCell h (a0 := ⟨g, 0, none⟩) hg u).setCell (a0 := ⟨g, 1, none⟩) hg v⟩

end Go.Proofs.Ytlfljfmhhnoinaa

/- The laws' helpers over lists of ints in one form, as LawG has them over tables. -/
namespace Go.Proofs.Ytlfljfmhhnoinaa
open Go.RowKit

/-- A list of ints that the laws' bound allows. -/
def SmI (zs : List Int) (n : Nat) : Prop := zs.length = n ∧ n ≤ 1048576
theorem SmI.n {zs : List Int} {n : Nat} (h : SmI zs n) : n ≤ 1048576 := h.2

/-- A slice of ints that the call made: its block lies from lo on and below hi. -/
def OwnI (w : World) (lo hi : Nat) (a : Option Addr) (n c : Nat) (zs : List Int) : Prop :=
  w.ownsRow lo 3 1 (.slice a n c) n (zs.map (.int .i64)) ∧ (∀ k, (Value.slice a n c).ownBlock = some k → lo ≤ k ∧ k < hi)

section
variable {w w' : World} {lo hi : Nat} {a : Option Addr} {n c : Nat} {zs : List Int}
theorem OwnI.below (h : OwnI w lo hi a n c zs) (hb : Below w.heap.size w w') : OwnI w' lo hi a n c zs := ⟨h.1.kept (Below.toGrown hb none) (by simp; exact Classical.em _), h.2⟩
theorem OwnI.apartW {lo' hi' : Nat} (h : OwnI w lo hi a n c zs) (hp : Apart lo' hi' w w') (hd : hi ≤ lo' ∨ hi' ≤ lo) : OwnI w' lo hi a n c zs := ⟨hp.owns h.1 (fun k hk => by have := h.2 k hk; omega), h.2⟩
theorem OwnI.at (h : OwnI w lo hi a n c zs) (_hs : SmI zs n) : At w a zs := At.owned h.1
end

theorem toIntSG (a : Option Addr) (n c : Nat) (zs : List Int) (w : World) (hs : SmI zs n) (ha : At w a zs) :
    Calls Try.prog 32 #[.slice a n c] w fun e w' => ∃ g, e = .returned (.slice (some ⟨g, 0, none⟩) n n) ∧ OwnI w' w.heap.size w'.heap.size (some ⟨g, 0, none⟩) n n zs ∧ Below w.heap.size w w' :=
  (toIntS_at a n c zs w hs.1 hs.2 ha).mono fun _ _ ⟨g, h1, h2, h3⟩ => ⟨g, h1, ⟨h2, fun k hk => h2.lt k hk⟩, h3⟩
theorem eqIntSG (a a' : Option Addr) (n c c' : Nat) (zs : List Int) (w : World) (hs : SmI zs n) (ha : At w a zs) (ha' : At w a' zs) :
    Calls Try.prog 34 #[.slice a n c, .slice a' n c'] w fun e w' => e = .returned (.bool true) ∧ Below w.heap.size w w' :=
  (eqIntS_any a a' n n c c' zs zs w hs.1 hs.1 hs.2 hs.2 ha ha').mono fun _ _ ⟨h1, h2⟩ => ⟨by rw [h1, decide_eq_true rfl], h2⟩
theorem markIntSG (lo hi : Nat) (a : Option Addr) (n c : Nat) (zs : List Int) (m : Int) (w : World) (hs : SmI zs n) (h0 : 0 ≤ m) (h1 : m ≤ 268435456) (ho : OwnI w lo hi a n c zs) :
    Calls Try.prog 35 #[.slice a n c, .int .i64 m] w fun e w' => e = .returned (.int .i64 (m + n)) ∧ OwnI w' lo hi a n c (marks m n) ∧ Apart lo hi w w' :=
  (markIntS_any lo a n c _ m w hs.2 h0 (by omega) ho.1).mono fun _ _ ⟨h1, h2, h3⟩ => ⟨h1, ⟨h2, ho.2⟩, Apart.grown h3 ho.2⟩

end Go.Proofs.Ytlfljfmhhnoinaa

/- Contracts of the laws' helpers over rows: markRow, heldRow. -/
namespace Go.Proofs.Ytlfljfmhhnoinaa
open Go.RowKit

theorem markRow_any (base : Nat) (a : Option Addr) (n c : Nat) (cs : List Value) (m : Int) (w : World) (hn : n ≤ 1048576) (h0 : 0 ≤ m) (h1 : m ≤ 1073741824) (hown : w.ownsRow base 3 1 (.slice a n c) n cs) :
    Calls Try.prog 21 #[.agg #[.slice a n c], .int .i64 m] w fun e w' => e = .returned (.int .i64 (m + n)) ∧
      w'.ownsRow base 3 1 (.slice a n c) n ((marks m n).map (.int .i64)) ∧ w.grownBy w' (Value.slice a n c).ownBlock := by
  have HO := hown.alloc (.cells #[.slice a n c] 33)
  clear hown
  go_enter Try.func21, Try.ntmps21
  go_wp2_with (go_at_call 35; refine (markIntS_any base _ _ _ cs _ _ hn h0 h1 HO).mono ?_; rintro e w' ⟨rfl, hown, hg⟩)
  go_ret
  exact ⟨rfl, hown, grown_alloc hg⟩

theorem heldRow_any (a : Option Addr) (n c : Nat) (m : Int) (w : World) (hn : n ≤ 1048576) (h0 : 0 ≤ m) (h1 : m ≤ 1073741824) (ha : At w a (marks m n)) :
    Calls Try.prog 53 #[.agg #[.slice a n c], .int .i64 m] w fun e w' => e = .returned (.int .i64 (m + n)) ∧ Below w.heap.size w w' := by
  have HA := ha.alloc (.cells #[.slice a n c] 33)
  have h2 : ¬ m + (n : Int) < 0 := by omega
  clear ha
  go_enter Try.func53, Try.ntmps53
  go_wp2_with (go_at_call 66; refine (heldIntS_any _ _ _ _ _ hn h0 h1 HA).mono ?_; rintro e w' ⟨rfl, rfl⟩)
  go_ret
  exact ⟨rfl, (Below.refl _ _).alloc (Nat.le_refl _) _⟩

end Go.Proofs.Ytlfljfmhhnoinaa

/- Plain facts: an amount put to a key, many of them, and that a rising list of groups is told by its amounts. -/
namespace Go.Proofs.Ytlfljfmhhnoinaa

/-- Two numbers of a group. -/
abbrev Amt := Int × Int
def addA (x y : Amt) : Amt := (x.1 + y.1, x.2 + y.2)
theorem addA_zero (x : Amt) : addA x (0, 0) = x := by simp [addA]
theorem zero_addA (x : Amt) : addA (0, 0) x = x := by simp [addA]
theorem addA_comm (x y : Amt) : addA x y = addA y x := by simp [addA, Int.add_comm]
theorem addA_assoc (x y z : Amt) : addA (addA x y) z = addA x (addA y z) := by simp [addA, Int.add_assoc]

/-- Keys that rise. -/
def RisesV (ts : List GRow) : Prop := ts.Pairwise fun s t => cmp s.1 t.1 < 0
theorem risesV_of {ts : List GRow} (h : ∀ k, k + 1 < ts.length → cmp (gat ts k).1 (gat ts (k + 1)).1 < 0) : RisesV ts := by
  induction ts with
  | nil => exact List.Pairwise.nil
  | cons t ts ih =>
    have ih' : RisesV ts := ih fun k hk => by simpa [gat, List.getD] using h (k + 1) (by simpa using hk)
    refine List.pairwise_cons.2 ⟨fun s hs => ?_, ih'⟩
    cases ts with
    | nil => simp at hs
    | cons u us =>
      have h0 : cmp t.1 u.1 < 0 := by simpa [gat, List.getD] using h 0 (by simp)
      rcases List.mem_cons.1 hs with rfl | hs
      · exact h0
      · exact cmp_trans h0 ((List.pairwise_cons.1 ih').1 s hs)
theorem goodV_rises {ts : List GRow} (h : goodV ts = true) : RisesV ts := risesV_of fun k hk => by
  have := (goodV_parts h).2 (k + 1) hk
  simp only [stepV, Bool.and_eq_true, Bool.or_eq_true, decide_eq_true_eq] at this
  rcases this.2 with h0 | h0
  · omega
  · simpa using h0

/-- The amount of a key, nothing where it is not there. -/
def vOf (ts : List GRow) (zs : List Int) : Amt := ((ts.find? fun t => decide (t.1 = zs)).map fun t => t.2).getD (0, 0)
theorem vOf_nil (zs : List Int) : vOf [] zs = (0, 0) := rfl
theorem vOf_cons (t : GRow) (ts : List GRow) (zs : List Int) : vOf (t :: ts) zs = if t.1 = zs then t.2 else vOf ts zs := by
  unfold vOf
  by_cases e : t.1 = zs <;> simp [e]
theorem vOf_absent {ts : List GRow} {zs : List Int} (h : ∀ t ∈ ts, t.1 ≠ zs) : vOf ts zs = (0, 0) := by
  induction ts with
  | nil => rfl
  | cons t ts ih => rw [vOf_cons, if_neg (h t (by simp))]; exact ih fun s hs => h s (by simp [hs])

/-- A key with its amount, nothing where it is nothing. -/
def oneV (zs : List Int) (x : Amt) : List GRow := if x = (0, 0) then [] else [(zs, x)]
/-- What is left behind the place at which a key is put. -/
def restV (zs : List Int) (x : Amt) : List GRow → List GRow
  | [] => oneV zs x
  | t :: ts => if cmp t.1 zs = 0 then oneV zs (addA x t.2) ++ ts else oneV zs x ++ t :: ts
/-- An amount is put to a key. -/
def putV : List GRow → List Int → Amt → List GRow
  | [], zs, x => restV zs x []
  | t :: ts, zs, x => if cmp t.1 zs < 0 then t :: putV ts zs x else restV zs x (t :: ts)

theorem putV_at (zs : List Int) (x : Amt) : ∀ (ts : List GRow) (k : Nat), k ≤ ts.length → (∀ j, j < k → cmp (gat ts j).1 zs < 0) → (k < ts.length → ¬ cmp (gat ts k).1 zs < 0) → putV ts zs x = ts.take k ++ restV zs x (ts.drop k) := by
  intro ts
  induction ts with
  | nil => intro k hk _ _; obtain rfl : k = 0 := by simpa using hk
           rfl
  | cons t ts ih =>
    intro k hk h1 h2
    cases k with
    | zero =>
      have : ¬ cmp t.1 zs < 0 := by simpa [gat, List.getD] using h2 (by simp)
      simp only [putV, if_neg this, List.take_zero, List.drop_zero, List.nil_append]
    | succ k =>
      have h0 : cmp t.1 zs < 0 := by simpa [gat, List.getD] using h1 0 (by omega)
      simp only [putV, if_pos h0, List.take_succ_cons, List.drop_succ_cons, List.cons_append]
      rw [ih k (by simpa using hk) (fun j hj => by simpa [gat, List.getD] using h1 (j + 1) (by omega)) (fun h => by simpa [gat, List.getD] using h2 (by simpa using h))]

theorem restV_cons (zs : List Int) (x : Amt) (ts : List GRow) (k : Nat) (h : k < ts.length) :
    restV zs x (ts.drop k) = if cmp (gat ts k).1 zs = 0 then oneV zs (addA x (gat ts k).2) ++ ts.drop (k + 1) else oneV zs x ++ ts.drop k := by
  rw [List.drop_eq_getElem_cons h]
  simp [restV, gat, List.getD, h]

/-- No amount is nothing. -/
def NoZeroV (ts : List GRow) : Prop := ∀ t ∈ ts, t.2 ≠ (0, 0)

theorem oneV_mem {zs : List Int} {x : Amt} {t : GRow} (h : t ∈ oneV zs x) : t = (zs, x) ∧ x ≠ (0, 0) := by
  unfold oneV at h
  by_cases e : x = (0, 0)
  · simp [e] at h
  · rw [if_neg e] at h; exact ⟨by simpa using h, e⟩

theorem putV_mem {zs : List Int} {x : Amt} {t : GRow} : ∀ {ts : List GRow}, t ∈ putV ts zs x → t ∈ ts ∨ t.1 = zs := by
  intro ts
  induction ts with
  | nil => intro h; right; exact congrArg Prod.fst (oneV_mem h).1
  | cons s ts ih =>
    intro h
    simp only [putV] at h
    by_cases e : cmp s.1 zs < 0
    · rw [if_pos e] at h
      rcases List.mem_cons.1 h with rfl | h
      · left; simp
      · rcases ih h with h | h
        · left; simp [h]
        · right; exact h
    · rw [if_neg e] at h
      simp only [restV] at h
      by_cases e2 : cmp s.1 zs = 0
      · rw [if_pos e2] at h
        rcases List.mem_append.1 h with h | h
        · right; exact congrArg Prod.fst (oneV_mem h).1
        · left; simp [h]
      · rw [if_neg e2] at h
        rcases List.mem_append.1 h with h | h
        · right; exact congrArg Prod.fst (oneV_mem h).1
        · left; exact h

theorem risesV_one (zs : List Int) (x : Amt) (ts : List GRow) (hr : RisesV ts) (h : ∀ t ∈ ts, cmp zs t.1 < 0) : RisesV (oneV zs x ++ ts) := by
  unfold oneV
  by_cases e : x = (0, 0)
  · simpa [e] using hr
  · rw [if_neg e]; exact List.pairwise_cons.2 ⟨h, hr⟩

theorem putV_rises {zs : List Int} {x : Amt} : ∀ {ts : List GRow}, RisesV ts → RisesV (putV ts zs x) := by
  intro ts
  induction ts with
  | nil => intro _; have := risesV_one zs x [] List.Pairwise.nil (by simp); simpa [putV, restV] using this
  | cons s ts ih =>
    intro h
    obtain ⟨h1, h2⟩ := List.pairwise_cons.1 h
    simp only [putV]
    by_cases e : cmp s.1 zs < 0
    · rw [if_pos e]
      refine List.pairwise_cons.2 ⟨fun t ht => ?_, ih h2⟩
      rcases putV_mem ht with h' | h'
      · exact h1 t h'
      · rw [h']; exact e
    · rw [if_neg e]
      simp only [restV]
      by_cases e2 : cmp s.1 zs = 0
      · rw [if_pos e2]
        refine risesV_one _ _ _ h2 fun t ht => ?_
        rw [← cmp_eq e2]; exact h1 t ht
      · rw [if_neg e2]
        have e3 : cmp zs s.1 < 0 := by have := cmp_swap s.1 zs; have := cmp_range s.1 zs; omega
        refine risesV_one _ _ _ h fun t ht => ?_
        rcases List.mem_cons.1 ht with rfl | ht
        · exact e3
        · exact cmp_trans e3 (h1 t ht)

theorem putV_nozero {zs : List Int} {x : Amt} : ∀ {ts : List GRow}, NoZeroV ts → NoZeroV (putV ts zs x) := by
  intro ts
  induction ts with
  | nil => intro _ t ht; obtain ⟨rfl, h⟩ := oneV_mem ht; exact h
  | cons s ts ih =>
    intro h t ht
    simp only [putV] at ht
    have hts : NoZeroV ts := fun t ht => h t (by simp [ht])
    by_cases e : cmp s.1 zs < 0
    · rw [if_pos e] at ht
      rcases List.mem_cons.1 ht with rfl | ht
      · exact h _ (by simp)
      · exact ih hts t ht
    · rw [if_neg e] at ht
      simp only [restV] at ht
      by_cases e2 : cmp s.1 zs = 0
      · rw [if_pos e2] at ht
        rcases List.mem_append.1 ht with ht | ht
        · obtain ⟨rfl, h⟩ := oneV_mem ht; exact h
        · exact hts t ht
      · rw [if_neg e2] at ht
        rcases List.mem_append.1 ht with ht | ht
        · obtain ⟨rfl, h⟩ := oneV_mem ht; exact h
        · exact h t ht

theorem vOf_one (zs : List Int) (x : Amt) (ts : List GRow) (ys : List Int) (h : ∀ t ∈ ts, t.1 ≠ zs) : vOf (oneV zs x ++ ts) ys = addA (vOf ts ys) (if zs = ys then x else (0, 0)) := by
  unfold oneV
  by_cases e : x = (0, 0)
  · rw [if_pos e]; simp [e, addA_zero]
  · rw [if_neg e, List.singleton_append, vOf_cons]
    by_cases e2 : zs = ys
    · subst e2
      rw [if_pos rfl, if_pos rfl, vOf_absent h, zero_addA]
    · rw [if_neg e2, if_neg e2, addA_zero]

theorem putV_vOf {zs : List Int} {x : Amt} (ys : List Int) : ∀ {ts : List GRow}, RisesV ts → vOf (putV ts zs x) ys = addA (vOf ts ys) (if zs = ys then x else (0, 0)) := by
  intro ts
  induction ts with
  | nil => intro _; have := vOf_one zs x [] ys (by simp); simpa [putV, restV] using this
  | cons s ts ih =>
    intro h
    obtain ⟨h1, h2⟩ := List.pairwise_cons.1 h
    simp only [putV]
    by_cases e : cmp s.1 zs < 0
    · rw [if_pos e, vOf_cons, vOf_cons, ih h2]
      by_cases e2 : s.1 = ys
      · rw [if_pos e2, if_pos e2, if_neg (fun e3 => cmp_ne e (e2.trans e3.symm)), addA_zero]
      · rw [if_neg e2, if_neg e2]
    · rw [if_neg e]
      simp only [restV]
      by_cases e2 : cmp s.1 zs = 0
      · have es := cmp_eq e2
        rw [if_pos e2, vOf_one _ _ _ _ (fun t ht e' => cmp_ne (h1 t ht) (es.trans e'.symm)), vOf_cons, es]
        by_cases e3 : zs = ys
        · subst e3
          rw [if_pos rfl, if_pos rfl, if_pos rfl, vOf_absent (fun t ht e' => cmp_ne (h1 t ht) (es.trans e'.symm)), zero_addA, addA_comm]
        · rw [if_neg e3, if_neg e3, if_neg e3]
      · rw [if_neg e2]
        have e3 : cmp zs s.1 < 0 := by have := cmp_swap s.1 zs; have := cmp_range s.1 zs; omega
        exact vOf_one _ _ _ _ fun t ht e' => by
          rcases List.mem_cons.1 ht with rfl | ht
          · exact cmp_ne e3 e'.symm
          · exact cmp_ne (cmp_trans e3 (h1 t ht)) e'.symm

theorem vOf_mem {ts : List GRow} (hr : RisesV ts) {t : GRow} (h : t ∈ ts) : vOf ts t.1 = t.2 := by
  induction ts with
  | nil => simp at h
  | cons s ts ih =>
    obtain ⟨h1, h2⟩ := List.pairwise_cons.1 hr
    rw [vOf_cons]
    rcases List.mem_cons.1 h with rfl | h
    · simp
    · rw [if_neg (fun e => cmp_ne (h1 t h) e)]; exact ih h2 h
theorem mem_vOf {ts : List GRow} {zs : List Int} (h : vOf ts zs ≠ (0, 0)) : (zs, vOf ts zs) ∈ ts := by
  induction ts with
  | nil => exact absurd rfl h
  | cons s ts ih =>
    rw [vOf_cons] at h ⊢
    by_cases e : s.1 = zs
    · rw [if_pos e]; subst e; simp
    · rw [if_neg e] at h ⊢; simp [ih h]

/-- Two rising lists that have the same amounts, none nothing, are one. -/
theorem risesV_ext : ∀ {ts us : List GRow}, RisesV ts → RisesV us → NoZeroV ts → NoZeroV us → (∀ zs, vOf ts zs = vOf us zs) → ts = us := by
  intro ts
  induction ts with
  | nil =>
    intro us _ hu _ nu h
    cases us with
    | nil => rfl
    | cons u us =>
      have := h u.1
      rw [vOf_mem hu (by simp), vOf_nil] at this
      exact absurd this.symm (nu u (by simp))
  | cons t ts ih =>
    intro us ht hu nt nu h
    cases us with
    | nil =>
      have := h t.1
      rw [vOf_mem ht (by simp), vOf_nil] at this
      exact absurd this (nt t (by simp))
    | cons u us =>
      obtain ⟨t1, t2⟩ := List.pairwise_cons.1 ht
      obtain ⟨u1, u2⟩ := List.pairwise_cons.1 hu
      have e1 : (t.1, t.2) ∈ u :: us := by
        have := h t.1
        rw [vOf_mem ht (by simp)] at this
        rw [this]; exact mem_vOf (by rw [← this]; exact nt t (by simp))
      have e2 : (u.1, u.2) ∈ t :: ts := by
        have := h u.1
        rw [vOf_mem hu (by simp)] at this
        rw [← this]; exact mem_vOf (by rw [this]; exact nu u (by simp))
      have e : t = u := by
        rcases List.mem_cons.1 e1 with e1 | e1
        · exact e1
        · rcases List.mem_cons.1 e2 with e2 | e2
          · exact e2.symm
          · exact absurd (cmp_trans (u1 _ e1) (t1 _ e2)) (cmp_irrefl _)
      subst e
      congr 1
      refine ih t2 u2 (fun s hs => nt s (by simp [hs])) (fun s hs => nu s (by simp [hs])) fun zs => ?_
      have := h zs
      rw [vOf_cons, vOf_cons] at this
      by_cases e : t.1 = zs
      · subst e
        rw [vOf_absent fun s hs e' => cmp_ne (t1 s hs) e'.symm, vOf_absent fun s hs e' => cmp_ne (u1 s hs) e'.symm]
      · rwa [if_neg e, if_neg e] at this

/-- What groups add at a key. -/
def sumV (l : List GRow) (zs : List Int) : Amt := l.foldl (fun acc t => addA acc (if t.1 = zs then t.2 else (0, 0))) (0, 0)
theorem sumV_from (l : List GRow) (zs : List Int) : ∀ x : Amt, l.foldl (fun acc t => addA acc (if t.1 = zs then t.2 else (0, 0))) x = addA x (sumV l zs) := by
  unfold sumV
  induction l with
  | nil => intro x; simp [addA_zero]
  | cons t l ih => intro x; rw [List.foldl_cons, List.foldl_cons, ih, ih (addA (0, 0) _), zero_addA, addA_assoc]
theorem sumV_nil (zs : List Int) : sumV [] zs = (0, 0) := rfl
theorem sumV_cons (t : GRow) (l : List GRow) (zs : List Int) : sumV (t :: l) zs = addA (if t.1 = zs then t.2 else (0, 0)) (sumV l zs) := by
  show List.foldl _ _ _ = _
  rw [List.foldl_cons, sumV_from, zero_addA]
theorem sumV_snoc (l : List GRow) (t : GRow) (zs : List Int) : sumV (l ++ [t]) zs = addA (sumV l zs) (if t.1 = zs then t.2 else (0, 0)) := by
  unfold sumV; rw [List.foldl_append]; rfl
/-- All groups are put, one by one. -/
def putAllV (ts l : List GRow) : List GRow := l.foldl (fun acc t => putV acc t.1 t.2) ts
theorem putAllV_nil (ts : List GRow) : putAllV ts [] = ts := rfl
theorem putAllV_snoc (ts l : List GRow) (t : GRow) : putAllV ts (l ++ [t]) = putV (putAllV ts l) t.1 t.2 := by simp [putAllV]
theorem putAllV_take (ts l : List GRow) (k : Nat) (h : k < l.length) : putAllV ts (l.take (k + 1)) = putV (putAllV ts (l.take k)) (gat l k).1 (gat l k).2 := by rw [vtake_succ l k h, putAllV_snoc]
theorem putAllV_rises {l : List GRow} : ∀ {ts : List GRow}, RisesV ts → RisesV (putAllV ts l) := by
  induction l with
  | nil => intro ts h; exact h
  | cons t l ih => intro ts h; exact ih (putV_rises h)
theorem putAllV_nozero {l : List GRow} : ∀ {ts : List GRow}, NoZeroV ts → NoZeroV (putAllV ts l) := by
  induction l with
  | nil => intro ts h; exact h
  | cons t l ih => intro ts h; exact ih (putV_nozero h)
theorem putAllV_vOf {l : List GRow} (zs : List Int) : ∀ {ts : List GRow}, RisesV ts → vOf (putAllV ts l) zs = addA (vOf ts zs) (sumV l zs) := by
  induction l with
  | nil => intro ts h; simp [putAllV, sumV_nil, addA_zero]
  | cons t l ih =>
    intro ts h
    have := ih (ts := putV ts t.1 t.2) (putV_rises h)
    rw [putV_vOf zs h] at this
    simp only [putAllV, List.foldl_cons] at this ⊢
    rw [this, sumV_cons, addA_assoc]
theorem putV_len {zs : List Int} {x : Amt} : ∀ {ts : List GRow}, (putV ts zs x).length ≤ ts.length + 1 := by
  have h1 : ∀ y, (oneV zs y).length ≤ 1 := fun y => by unfold oneV; split <;> simp
  intro ts
  induction ts with
  | nil => simpa [putV, restV] using h1 x
  | cons t ts ih =>
    simp only [putV]
    split
    · simpa using ih
    · simp only [restV]
      split
      · have := h1 (addA x t.2); simp; omega
      · have := h1 x; simp; omega
theorem putAllV_len (l : List GRow) : ∀ (ts : List GRow), (putAllV ts l).length ≤ ts.length + l.length := by
  induction l with
  | nil => intro ts; simp [putAllV]
  | cons t l ih => intro ts; have := ih (putV ts t.1 t.2); have := putV_len (zs := t.1) (x := t.2) (ts := ts); simp only [putAllV, List.foldl_cons, List.length_cons] at *; omega
/-- Each key of it is one that was there or was put. -/
theorem putAllV_rows {l : List GRow} {t : GRow} : ∀ {ts : List GRow}, t ∈ putAllV ts l → (∃ s ∈ ts, s.1 = t.1) ∨ ∃ s ∈ l, s.1 = t.1 := by
  induction l with
  | nil => intro ts h; exact .inl ⟨t, h, rfl⟩
  | cons s l ih =>
    intro ts h
    rcases ih (ts := putV ts s.1 s.2) h with ⟨u, hu, e⟩ | ⟨u, hu, e⟩
    · rcases putV_mem hu with h' | h'
      · exact .inl ⟨u, h', e⟩
      · exact .inr ⟨s, by simp, by rw [← e, h']⟩
    · exact .inr ⟨u, by simp [hu], e⟩
/-- Both numbers lie within a bound. -/
def InA (M : Int) (x : Amt) : Prop := -M ≤ x.1 ∧ x.1 ≤ M ∧ -M ≤ x.2 ∧ x.2 ≤ M
theorem inA_zero {M : Int} (h : 0 ≤ M) : InA M (0, 0) := ⟨by show -M ≤ 0; omega, h, by show -M ≤ 0; omega, h⟩
theorem InA.add {M M' : Int} {x y : Amt} (h : InA M x) (k : InA M' y) : InA (M + M') (addA x y) := by
  obtain ⟨h1, h2, h3, h4⟩ := h
  obtain ⟨k1, k2, k3, k4⟩ := k
  refine ⟨?_, ?_, ?_, ?_⟩ <;> (simp only [addA]; omega)
theorem InA.mono {M M' : Int} {x : Amt} (h : InA M x) (hM : M ≤ M') : InA M' x := by
  obtain ⟨h1, h2, h3, h4⟩ := h
  refine ⟨?_, ?_, ?_, ?_⟩ <;> omega
theorem sumV_bound {l : List GRow} {zs : List Int} {M : Int} (hM : 0 ≤ M) (h : ∀ t ∈ l, InA M t.2) : InA (M * l.length) (sumV l zs) := by
  induction l with
  | nil => simpa [sumV_nil] using inA_zero (Int.le_refl 0)
  | cons t l ih =>
    have h1 := ih fun s hs => h s (by simp [hs])
    have h2 := h t (by simp)
    have e : M * ((t :: l).length : Int) = M + M * (l.length : Int) := by rw [List.length_cons]; push_cast; rw [Int.mul_add]; omega
    rw [e, sumV_cons]
    refine InA.add ?_ h1
    by_cases e2 : t.1 = zs
    · rw [if_pos e2]; exact h2
    · rw [if_neg e2]; exact inA_zero hM
theorem vOf_bound {ts : List GRow} {zs : List Int} {M : Int} (hM : 0 ≤ M) (h : ∀ t ∈ ts, InA M t.2) : InA M (vOf ts zs) := by
  by_cases e : vOf ts zs = (0, 0)
  · rw [e]; exact inA_zero hM
  · exact h _ (mem_vOf e)

end Go.Proofs.Ytlfljfmhhnoinaa

/- Plain functions: picking cells. -/
namespace Go.Proofs.Ytlfljfmhhnoinaa

def colIn (n : Nat) (k : Int) : Bool := decide (0 ≤ k) && decide (k < n)
def colsOk (cols : List Int) (n : Nat) : Bool := decide (cols.length ≤ 6) && cols.all (colIn n)
def pick (zs cols : List Int) : List Int := cols.map fun k => zs.getD k.toNat 0
def pickOk (zs cols : List Int) : Bool := good zs && colsOk cols zs.length
def pickZ (zs cols : List Int) : List Int := if pickOk zs cols then pick zs cols else []

theorem colsOk_of {cols : List Int} {n : Nat} (hl : cols.length ≤ 6) (h : ∀ j, j < cols.length → 0 ≤ cols.getD j 0 ∧ cols.getD j 0 < n) : colsOk cols n = true := by
  simp only [colsOk, Bool.and_eq_true, decide_eq_true_eq, List.all_eq_true, colIn]
  refine ⟨hl, fun x hx => ?_⟩
  obtain ⟨k, hk, rfl⟩ := List.getElem_of_mem hx
  simpa [List.getD, hk] using h k hk
theorem colsOk_at {cols : List Int} {n : Nat} (h : colsOk cols n = true) (k : Nat) (hk : k < cols.length) : 0 ≤ cols.getD k 0 ∧ cols.getD k 0 < n := by
  simp only [colsOk, Bool.and_eq_true, decide_eq_true_eq, List.all_eq_true, colIn] at h
  have := h.2 (cols[k]) (List.getElem_mem hk)
  simpa [List.getD, hk] using this
theorem colsOk_long {cols : List Int} {n : Nat} (h : 6 < cols.length) : colsOk cols n = false := by simp [colsOk]; omega
theorem colsOk_len {cols : List Int} {n : Nat} (h : colsOk cols n = true) : cols.length ≤ 6 := by
  simp only [colsOk, Bool.and_eq_true, decide_eq_true_eq] at h; exact h.1
theorem not_colsOk {cols : List Int} {n : Nat} (k : Nat) (hk : k < cols.length) (h : cols.getD k 0 < 0 ∨ (n : Int) ≤ cols.getD k 0) : colsOk cols n = false := by
  cases hg : colsOk cols n with
  | false => rfl
  | true => have := colsOk_at hg k hk; omega
theorem pick_succ (zs cols : List Int) (k : Nat) (h : k < cols.length) : pick zs (cols.take (k + 1)) = pick zs (cols.take k) ++ [zs.getD (cols.getD k 0).toNat 0] := by
  unfold pick
  rw [take_snocD cols k h, List.map_append]; rfl
theorem pick_length (zs cols : List Int) (k : Nat) (h : k ≤ cols.length) : (pick zs (cols.take k)).length = k := by simp [pick]; omega
theorem pickZ_small (zs cols : List Int) : (pickZ zs cols).length ≤ 6 := by
  unfold pickZ
  split
  · rename_i h
    simp only [pickOk, Bool.and_eq_true] at h
    have := colsOk_len h.2
    simpa [pick] using this
  · simp

end Go.Proofs.Ytlfljfmhhnoinaa

/- The order of arrays as slices.SortFunc asks it: impl.compareArrays lays two blocks, draws, and turns nothing else. -/
namespace Go.Proofs.Ytlfljfmhhnoinaa
open Go.RowKit

set_option maxHeartbeats 1000000 in
theorem compareArrays_quiet (x0 x1 x2 x3 x4 x5 y0 y1 y2 y3 y4 y5 : Int) (xs ys : List Int) (hx : xs = [x0, x1, x2, x3, x4, x5]) (hy : ys = [y0, y1, y2, y3, y4, y5]) (w : World) :
    Calls Try.prog 46 #[.agg #[.int .i64 x0, .int .i64 x1, .int .i64 x2, .int .i64 x3, .int .i64 x4, .int .i64 x5], .agg #[.int .i64 y0, .int .i64 y1, .int .i64 y2, .int .i64 y3, .int .i64 y4, .int .i64 y5]] w fun e w' => e = .returned (.int .i64 (cmp xs ys)) ∧ ∃ q, w' = ((w.alloc (.cells #[.int .i64 x0, .int .i64 x1, .int .i64 x2, .int .i64 x3, .int .i64 x4, .int .i64 x5] 72)).alloc (.cells #[.int .i64 y0, .int .i64 y1, .int .i64 y2, .int .i64 y3, .int .i64 y4, .int .i64 y5] 72)).drewN q := by
  obtain ⟨W, hW⟩ : ∃ W, W = (w.alloc (.cells #[.int .i64 x0, .int .i64 x1, .int .i64 x2, .int .i64 x3, .int .i64 x4, .int .i64 x5] 72)).alloc (.cells #[.int .i64 y0, .int .i64 y1, .int .i64 y2, .int .i64 y3, .int .i64 y4, .int .i64 y5] 72) := ⟨_, rfl⟩
  have B : Below w.heap.size w W := by rw [hW]; exact ((Below.refl _ _).alloc (Nat.le_refl _) _).alloc (by simp) _
  have A1 : Arr W w.heap.size 72 xs := by rw [hW, hx]; exact (Arr.new rfl (by simp)).alloc _
  have A2 : Arr W (w.heap.size + 1) 72 ys := by rw [hW, hy]; exact Arr.new (by simp) (by simp)
  have HW := Hid.mk hW
  obtain ⟨i0, hi, hz0, hz1, hz2⟩ := info_parts Try.infoInt
  have hq : ∀ w, (Op.equalIn 10000 72 (.agg #[.int .i64 x0, .int .i64 x1, .int .i64 x2, .int .i64 x3, .int .i64 x4, .int .i64 x5]) (.agg #[.int .i64 y0, .int .i64 y1, .int .i64 y2, .int .i64 y3, .int .i64 y4, .int .i64 y5])).run Try.prog w = .ok (decide (xs = ys)) w := fun w => by
    rw [hx, hy]
    simpa using run_equal_ints w 9998 72 3 i0 Try.underlying72 Try.underlying3 hi hz1 [x0, x1, x2, x3, x4, x5] [y0, y1, y2, y3, y4, y5] rfl rfl
  have l1 : xs.length = 6 := by rw [hx]; rfl
  have l2 : ys.length = 6 := by rw [hy]; rfl
  clear hx hy hi hz0 hz1 hz2
  by_cases he : xs = ys
  · have HC : Hid (cmp xs ys = 0) := by rw [he]; exact cmp_self ys
    rw [decide_eq_true he] at hq
    clear he A1 A2
    go_enter Try.func46, Try.ntmps46
    go_wp2
    go_ret
    exact ⟨ret_int HC.out.symm, 0, rfl⟩
  · rw [decide_eq_false he] at hq
    have HN : Hid (xs ≠ ys) := he
    clear he
    go_enter Try.func46, Try.ntmps46
    go_wp2
    rw [← hW]
    clear hW hq
    go_loopw [5] (fun i wr => ∃ k : Nat, k ≤ 6 ∧ i = .int .i64 k ∧ xs.take k = ys.take k ∧ cmp xs ys = cmp (xs.drop k) (ys.drop k) ∧ ∃ q, wr = W.drewN q) (fun i _ => 7 - (intOf i).toNat)
    case atStart => exact ⟨0, Nat.zero_le _, rfl, rfl, by simp, 0, rfl⟩
    case round =>
      obtain ⟨k, hk, rfl, ht, hcmp, q, rfl⟩ := hrel
      have hlt : k < 6 := by
        rcases Nat.lt_or_ge k 6 with h | h
        · exact h
        · exact absurd (take_all_eq (by omega) (by omega) ht) HN.out
      have hcx := A1.cell k (by omega)
      have hcy := A2.cell k (by omega)
      have HT : Hid (xs.getD k 0 = ys.getD k 0 → xs.take (k + 1) = ys.take (k + 1)) := fun e => by
        rw [take_succ_getD xs k (by omega), take_succ_getD ys k (by omega), ht, e]
      have HD : Hid (cmp xs ys = _) := hcmp.trans (cmp_drop xs ys k (by omega) (by omega))
      clear ht hcmp A1 A2
      obtain ⟨x, hx⟩ : ∃ x, x = xs.getD k 0 := ⟨_, rfl⟩
      obtain ⟨y, hy⟩ : ∃ y, y = ys.getD k 0 := ⟨_, rfl⟩
      rw [← hx] at hcx HD HT
      rw [← hy] at hcy HD HT
      clear hx hy
      have hk6 : (k : Int) < 6 := by omega
      rcases Int.lt_trichotomy x y with h | h | h
      · have hne : (x == y) = false := by simp; omega
        go_wp2
        go_quiet (fail)
        go_wp2
        go_quiet (fail)
        go_wp2
        go_ret
        exact ⟨ret_int (by rw [HD.out, if_pos h]), _, by rw [← HW.out]; simp; rfl⟩
      · subst h
        go_wp2
        go_quiet (fail)
        go_wp2
        go_roundw
        case rel => exact ⟨k + 1, by omega, by go_num, HT.out (by trivial), by rw [HD.out, if_neg (by omega), if_neg (by omega)], _, rfl⟩
        case measure => simp [intOf]; omega
      · have hne : (x == y) = false := by simp; omega
        go_wp2
        go_quiet (fail)
        go_wp2
        go_quiet (fail)
        go_wp2
        go_ret
        exact ⟨ret_int (by rw [HD.out, if_neg (by omega), if_pos h]), _, by rw [← HW.out]; simp; rfl⟩

open Go.Shelf Go.Sort

/-- Six numbers. -/
abbrev Six := Int × Int × Int × Int × Int × Int
def Six.list (x : Six) : List Int := [x.1, x.2.1, x.2.2.1, x.2.2.2.1, x.2.2.2.2.1, x.2.2.2.2.2]
def Six.enc (x : Six) : List Value := [.int .i64 x.1, .int .i64 x.2.1, .int .i64 x.2.2.1, .int .i64 x.2.2.2.1, .int .i64 x.2.2.2.2.1, .int .i64 x.2.2.2.2.2]
def Six.cf (x y : Six) : Int := cmp (Six.list x) (Six.list y)
theorem Six.list_inj {x y : Six} (h : Six.list x = Six.list y) : x = y := by
  obtain ⟨a, b, c, d, e, f⟩ := x
  obtain ⟨a', b', c', d', e', f'⟩ := y
  simpa [Six.list] using h

theorem Six.lays (blk off size : Nat) (w : World) : CmpLays Try.prog 46 #[] Six.enc 6 Six.cf blk off size w := fun m os dk _ x y => by
  refine (compareArrays_quiet _ _ _ _ _ _ _ _ _ _ _ _ (Six.list x) (Six.list y) rfl rfl _).mono ?_
  rintro e w' ⟨rfl, q, rfl⟩
  exact ⟨rfl, q, _, by rw [alloc_eq_grow, alloc_eq_grow, grow_grow]; rfl⟩

theorem cmp_nlt {xs ys zs : List Int} (h1 : ¬ cmp xs ys < 0) (h2 : ¬ cmp ys zs < 0) : ¬ cmp xs zs < 0 := fun h => by
  have h3 := cmp_swap xs ys
  by_cases e : cmp ys xs < 0
  · exact h2 (cmp_trans e h)
  · have : cmp xs ys = 0 := by omega
    rw [cmp_eq this] at h
    exact h2 h

theorem Six.lt (x y : Six) : ltOf Six.cf x y = decide (cmp (Six.list x) (Six.list y) < 0) := rfl
theorem Six.swo : SWO (ltOf Six.cf) where
  irrefl x := by rw [Six.lt]; exact decide_eq_false (cmp_irrefl _)
  trans x y z h1 h2 := by rw [Six.lt, decide_eq_true_eq] at *; exact cmp_trans h1 h2
  ntrans x y z h1 h2 := by rw [Six.lt, decide_eq_false_iff_not] at *; exact cmp_nlt h1 h2
theorem Six.total (x y : Six) (h1 : ltOf Six.cf x y = false) (h2 : ltOf Six.cf y x = false) : x = y := by
  rw [Six.lt, decide_eq_false_iff_not] at h1 h2
  have := cmp_swap (Six.list x) (Six.list y)
  exact Six.list_inj (cmp_eq (by omega))

end Go.Proofs.Ytlfljfmhhnoinaa
