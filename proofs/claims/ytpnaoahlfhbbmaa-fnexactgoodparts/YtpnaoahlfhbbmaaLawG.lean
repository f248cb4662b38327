/- The laws' helpers over tables in one form: what they make, hold equal, mark, find held. -/
import Derived.Deep.DeepCutAuto
import Derived.Test.YtpnaoahlfhbbmaaTableM
import Derived.Test.YtpnaoahlfhbbmaaTableE
import Derived.Test.YtpnaoahlfhbbmaaTableH
import Derived.Test.YtpnaoahlfhbbmaaWSum
namespace Go.Proofs.Ytpnaoahlfhbbmaa
open Go.RowKit

/-- A list of weighted rows that the laws' bound allows. -/
def SmT (ts : List WRow) (n : Nat) : Prop := ts.length = n ∧ wtot ts n ≤ 1048576
theorem SmT.n {ts : List WRow} {n : Nat} (h : SmT ts n) : n ≤ 1048576 := by have := wtot_len ts n (by have := h.1; omega); have := h.2; omega
theorem SmT.row {ts : List WRow} {n : Nat} (h : SmT ts n) : ∀ i, i < n → (wat ts i).1.length ≤ 1048576 := fun i hi => Nat.le_trans (wtot_each ts n h.1 i hi) h.2
theorem SmT.rowx {ts : List WRow} {n : Nat} (h : SmT ts n) : ∀ i, i < n → (wat ts i).1.length ≤ 9223372036854775807 := fun i hi => Nat.le_trans (h.row i hi) (by decide)

/-- A slice of weighted rows that the call made: all its blocks lie from lo on and below hi. -/
def OwnT (w : World) (lo hi : Nat) (a : Option Addr) (n c : Nat) (ts : List WRow) : Prop := ∃ cells, OwnW w lo hi 71 3 a n c ts cells

section
variable {w w' : World} {lo hi : Nat} {a : Option Addr} {n c : Nat} {ts : List WRow}
theorem OwnT.below (h : OwnT w lo hi a n c ts) (hb : Below w.heap.size w w') : OwnT w' lo hi a n c ts := by obtain ⟨cs, h⟩ := h; exact ⟨cs, h.below hb⟩
theorem OwnT.apartW {lo' hi' : Nat} (h : OwnT w lo hi a n c ts) (hp : Apart lo' hi' w w') (hd : hi ≤ lo' ∨ hi' ≤ lo) : OwnT w' lo hi a n c ts := by obtain ⟨cs, h⟩ := h; exact ⟨cs, h.apartW hp hd⟩
theorem OwnT.atW (h : OwnT w lo hi a n c ts) (hs : SmT ts n) : AtW w a ts := by obtain ⟨cs, h⟩ := h; exact OwnWk.atW h hs.rowx
theorem OwnT.atM (h : OwnT w lo hi a n c ts) (hs : SmT ts n) : AtM w a ts := by obtain ⟨cs, h⟩ := h; exact OwnWk.atM h hs.rowx
theorem OwnT.formed (h : OwnT w lo hi a n c ts) : Formed a n c := by obtain ⟨cs, h⟩ := h; exact owns_formed h.outer
theorem OwnT.len (h : OwnT w lo hi a n c ts) : ts.length = n := by obtain ⟨cs, h⟩ := h; exact h.len
theorem OwnT.atMark {m : Int} (h : OwnT w lo hi a n c (markW m ts)) (hs : SmT ts n) : AtW w a (markW m ts) := by
  obtain ⟨cs, h⟩ := h
  refine OwnWk.atW h fun i hi => ?_
  rw [markW_at m ts i (by have := hs.1; omega)]
  simp only [marks_length]
  exact hs.rowx i hi
end

theorem toTableG (a : Option Addr) (n c : Nat) (ts : List WRow) (p : Int) (w : World) (hs : SmT ts n) (ha : AtW w a ts) :
    Calls Try.prog 12 #[.agg #[.int .i64 p, .slice a n c]] w fun e w' => ∃ g, e = .returned (.agg #[.int .i64 p, .slice (some ⟨g, 0, none⟩) n n]) ∧ OwnT w' w.heap.size w'.heap.size (some ⟨g, 0, none⟩) n n ts ∧ Below w.heap.size w w' :=
  (toTable_any a n c ts p w hs.1 hs.n hs.row ha).mono fun _ _ ⟨g, cs, h1, h2, h3⟩ => ⟨g, h1, ⟨cs, h2⟩, h3⟩
theorem toWeightedSG (a : Option Addr) (n c : Nat) (ts : List WRow) (w : World) (hs : SmT ts n) (ha : AtW w a ts) :
    Calls Try.prog 34 #[.slice a n c] w fun e w' => ∃ g, e = .returned (.slice (some ⟨g, 0, none⟩) n n) ∧ OwnT w' w.heap.size w'.heap.size (some ⟨g, 0, none⟩) n n ts ∧ Below w.heap.size w w' :=
  (toWeightedS_any a n c ts w hs.1 hs.n hs.row ha).mono fun _ _ ⟨g, cs, h1, h2, h3⟩ => ⟨g, h1, ⟨cs, h2⟩, h3⟩
theorem eqTableG (a a' : Option Addr) (n c c' : Nat) (ts : List WRow) (p : Int) (w : World) (hs : SmT ts n) (ha : AtW w a ts) (ha' : AtW w a' ts) :
    Calls Try.prog 15 #[.agg #[.int .i64 p, .slice a n c], .agg #[.int .i64 p, .slice a' n c']] w fun e w' => e = .returned (.bool true) ∧ Below w.heap.size w w' :=
  (eqTable_any a a' n n c c' ts ts p p w hs.1 hs.1 hs.n hs.n hs.row hs.row ha ha').mono fun _ _ ⟨h1, h2⟩ => ⟨by rw [h1, decide_eq_true ⟨rfl, rfl⟩], h2⟩
theorem eqWeightedSG (a a' : Option Addr) (n c c' : Nat) (ts : List WRow) (w : World) (hs : SmT ts n) (ha : AtW w a ts) (ha' : AtW w a' ts) :
    Calls Try.prog 37 #[.slice a n c, .slice a' n c'] w fun e w' => e = .returned (.bool true) ∧ Below w.heap.size w w' :=
  (eqWeightedS_any a a' n n c c' ts ts w hs.1 hs.1 hs.n hs.n hs.row hs.row ha ha').mono fun _ _ ⟨h1, h2⟩ => ⟨by rw [h1, decide_eq_true rfl], h2⟩
theorem markTableG (lo hi : Nat) (a : Option Addr) (n c : Nat) (ts : List WRow) (p m : Int) (w : World) (hs : SmT ts n) (h0 : 0 ≤ m) (h1 : m ≤ 268435456) (ho : OwnT w lo hi a n c ts) :
    Calls Try.prog 16 #[.agg #[.int .i64 p, .slice a n c], .int .i64 m] w fun e w' => e = .returned (.int .i64 (m + wtot ts n)) ∧ OwnT w' lo hi a n c (markW m ts) ∧ Apart lo hi w w' := by
  obtain ⟨cs, ho⟩ := ho
  exact markTable_any lo hi a n c ts p cs m w hs.row hs.2 h0 h1 ho
theorem markWeightedSG (lo hi : Nat) (a : Option Addr) (n c : Nat) (ts : List WRow) (m : Int) (w : World) (hs : SmT ts n) (h0 : 0 ≤ m) (h1 : m ≤ 268435456) (ho : OwnT w lo hi a n c ts) :
    Calls Try.prog 38 #[.slice a n c, .int .i64 m] w fun e w' => e = .returned (.int .i64 (m + wtot ts n)) ∧ OwnT w' lo hi a n c (markW m ts) ∧ Apart lo hi w w' := by
  obtain ⟨cs, ho⟩ := ho
  exact markWeightedS_any lo hi a n c ts cs m w hs.row hs.2 h0 h1 ho
theorem wtot_le {ts : List WRow} {M : Nat} (h : ∀ t ∈ ts, t.1.length ≤ M) : ∀ k, k ≤ ts.length → wtot ts k ≤ k * (M + 1) := by
  intro k hk
  induction k with
  | zero => simp [wtot_zero]
  | succ k ih =>
    have h1 := ih (by omega)
    have h2 := h _ (wat_mem (show k < ts.length by omega))
    rw [wtot_succ ts k (by omega), Nat.add_mul]
    omega
theorem goodT_wtot {p : Int} {ts : List WRow} (h : goodT p ts = true) : wtot ts ts.length ≤ 1048576 := by
  have h1 := wtot_le (M := 6) (fun t ht => good_len (goodL_mem (goodL_of_goodT h) t ht).1) ts.length (Nat.le_refl _)
  have h2 := (goodT_parts h).2.1
  omega
/-- What is told is small. -/
theorem ans_small {ok : Bool} {p : Int} {ts : List WRow} (h : ok = true → goodT p ts = true) : SmT (ansT ok ts) (ansT ok ts).length := by
  refine ⟨rfl, ?_⟩
  cases ok with
  | false => simp [ansT, wtot]
  | true => exact goodT_wtot (h rfl)

theorem newB_goodT {p : Int} {l : List WRow} (h : newB p l = true) : goodT p (putAll [] l) = true := by
  simp only [newB, Bool.and_eq_true] at h
  exact h.2.2.2
/-- Outside lo .. hi - 1 a call's new memory is its own. -/
theorem Below.toApart {w w' : World} (h : Below w.heap.size w w') (lo hi : Nat) : Apart lo hi w w' := ⟨h.os, h.tape, h.output, h.size, fun k hk _ => h.block k hk⟩


theorem set2_heap {w : World} {g : Nat} {x y : Value} {t : TypeId} (h : w.heap[g]? = some (.cells #[x, y] t (0, 0))) (u v : Value) : ((w.setCell ⟨g, 0, none⟩ u).setCell ⟨g, 1, none⟩ v).heap[g]? = some (.cells #[u, v] t (0, 0)) := by
  have h1 := heap_setCell_same w g 0 _ t u h
  have h2 := heap_setCell_same _ g 1 _ t v h1
  rw [h2]; rfl
theorem set2_0 {w : World} {g : Nat} {x y : Value} {t : TypeId} (h : w.heap[g]? = some (.cells #[x, y] t (0, 0))) (u v : Value) : ((w.setCell ⟨g, 0, none⟩ u).setCell ⟨g, 1, none⟩ v).cell? ⟨g, 0, none⟩ = some u := by
  rw [cell_of_row _ _ 0 _ _ (0, 0) (set2_heap h u v)]; rfl
theorem set2_1 {w : World} {g : Nat} {x y : Value} {t : TypeId} (h : w.heap[g]? = some (.cells #[x, y] t (0, 0))) (u v : Value) : ((w.setCell ⟨g, 0, none⟩ u).setCell ⟨g, 1, none⟩ v).cell? ⟨g, 1, none⟩ = some v := by
  rw [cell_of_row _ _ 1 _ _ (0, 0) (set2_heap h u v)]; rfl
theorem OwnT.set2 {w : World} {lo hi g : Nat} {a : Option Addr} {n c : Nat} {ts : List WRow} (h : OwnT w lo hi a n c ts) (hg : g < lo ∨ hi ≤ g) (u v : Value) : OwnT ((w.setCell ⟨g, 0, none⟩ u).setCell ⟨g, 1, none⟩ v) lo hi a n c ts := by
  obtain ⟨cs, h⟩ := h
  exact ⟨cs, (OwnWk.setCell h (a0 := ⟨g, 0, none⟩) hg u).setCell (a0 := ⟨g, 1, none⟩) hg v⟩

end Go.Proofs.Ytpnaoahlfhbbmaa
