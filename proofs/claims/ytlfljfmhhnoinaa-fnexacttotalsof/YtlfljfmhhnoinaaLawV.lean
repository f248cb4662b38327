/- The laws' helpers over groups in one form: what they make, hold equal, mark, find held. -/
import Derived.Deep.DeepCutAuto
import Derived.Test.YtlfljfmhhnoinaaGrpM
import Derived.Test.YtlfljfmhhnoinaaGrpE
import Derived.Test.YtlfljfmhhnoinaaPlainV
namespace Go.Proofs.Ytlfljfmhhnoinaa
open Go.RowKit

/-- A list of groups that the laws' bound allows. -/
def SmV (ts : List GRow) (n : Nat) : Prop := ts.length = n ∧ vtot ts n ≤ 1048576
theorem SmV.n {ts : List GRow} {n : Nat} (h : SmV ts n) : n ≤ 1048576 := by have := vtot_len ts n (by have := h.1; omega); have := h.2; omega
theorem SmV.row {ts : List GRow} {n : Nat} (h : SmV ts n) : ∀ i, i < n → (gat ts i).1.length ≤ 1048576 := fun i hi => Nat.le_trans (vtot_each ts n h.1 i hi) h.2
theorem SmV.rowx {ts : List GRow} {n : Nat} (h : SmV ts n) : ∀ i, i < n → (gat ts i).1.length ≤ 9223372036854775807 := fun i hi => Nat.le_trans (h.row i hi) (by decide)
theorem vmk_vtot (ts : List GRow) (k : Nat) (h : k ≤ ts.length) : vmk ts k = vtot ts k + k := by
  induction k with
  | zero => rfl
  | succ k ih => rw [vmk_succ ts k (by omega), vtot_succ ts k (by omega), ih (by omega)]; omega
theorem SmV.mk' {ts : List GRow} {n : Nat} (h : SmV ts n) : vmk ts n ≤ 2097152 := by
  have h1 := vmk_vtot ts n (by have := h.1; omega)
  have h2 := h.n
  have h3 := h.2
  omega

/-- A slice of groups that the call made: all its blocks lie from lo on and below hi. -/
def OwnGr (w : World) (lo hi : Nat) (a : Option Addr) (n c : Nat) (ts : List GRow) : Prop := ∃ cells, OwnV w lo hi 35 3 a n c ts cells

section
variable {w w' : World} {lo hi : Nat} {a : Option Addr} {n c : Nat} {ts : List GRow}
theorem OwnGr.below (h : OwnGr w lo hi a n c ts) (hb : Below w.heap.size w w') : OwnGr w' lo hi a n c ts := by obtain ⟨cs, h⟩ := h; exact ⟨cs, h.below hb⟩
theorem OwnGr.apartW {lo' hi' : Nat} (h : OwnGr w lo hi a n c ts) (hp : Apart lo' hi' w w') (hd : hi ≤ lo' ∨ hi' ≤ lo) : OwnGr w' lo hi a n c ts := by obtain ⟨cs, h⟩ := h; exact ⟨cs, h.apartW hp hd⟩
theorem OwnGr.atV (h : OwnGr w lo hi a n c ts) (hs : SmV ts n) : AtV w a ts := by obtain ⟨cs, h⟩ := h; exact OwnVk.atV h hs.rowx
theorem OwnGr.len (h : OwnGr w lo hi a n c ts) : ts.length = n := by obtain ⟨cs, h⟩ := h; exact h.len
theorem OwnGr.widen {lo' hi' : Nat} (h : OwnGr w lo hi a n c ts) (h1 : lo' ≤ lo) (h2 : hi ≤ hi') (h3 : hi' ≤ w.heap.size) : OwnGr w lo' hi' a n c ts := by obtain ⟨cs, h⟩ := h; exact ⟨cs, OwnVk.widen h h1 h2 h3⟩
theorem OwnGr.atMark {m : Int} (h : OwnGr w lo hi a n c (markV m ts)) (hs : SmV ts n) : AtV w a (markV m ts) := by
  obtain ⟨cs, h⟩ := h
  refine OwnVk.atV h fun i hi => ?_
  rw [markV_at m ts i (by have := hs.1; omega)]
  simp only [marks_length]
  exact hs.rowx i hi
theorem OwnGr.nil (w : World) (lo : Nat) : OwnGr w lo w.heap.size none 0 0 [] :=
  ⟨[], rfl, Nat.le_refl _, World.ownsRow_nil _ _ _ _, fun b hb => by simp [Value.ownBlock] at hb, fun i hi => by omega, fun i hi => by omega, fun i j hi => by omega⟩
theorem OwnGr.setCell {a0 : Addr} (h : OwnGr w lo hi a n c ts) (ha : a0.block < lo ∨ hi ≤ a0.block) (v : Value) : OwnGr (w.setCell a0 v) lo hi a n c ts := by obtain ⟨cs, h⟩ := h; exact ⟨cs, OwnVk.setCell h ha v⟩
end

theorem toGroupSG (a : Option Addr) (n c : Nat) (ts : List GRow) (w : World) (hs : SmV ts n) (ha : AtV w a ts) :
    Calls Try.prog 11 #[.slice a n c] w fun e w' => ∃ g, e = .returned (.slice (some ⟨g, 0, none⟩) n n) ∧ OwnGr w' w.heap.size w'.heap.size (some ⟨g, 0, none⟩) n n ts ∧ Below w.heap.size w w' :=
  (toGroupS_any a n c ts w hs.1 hs.n hs.row ha).mono fun _ _ ⟨g, cs, h1, h2, h3⟩ => ⟨g, h1, ⟨cs, h2⟩, h3⟩
theorem eqGroupSG (a a' : Option Addr) (n c c' : Nat) (ts : List GRow) (w : World) (hs : SmV ts n) (ha : AtV w a ts) (ha' : AtV w a' ts) :
    Calls Try.prog 13 #[.slice a n c, .slice a' n c'] w fun e w' => e = .returned (.bool true) ∧ Below w.heap.size w w' :=
  (eqGroupS_any a a' n n c c' ts ts w hs.1 hs.1 hs.n hs.n hs.row hs.row ha ha').mono fun _ _ ⟨h1, h2⟩ => ⟨by rw [h1, decide_eq_true rfl], h2⟩
theorem markGroupSG (lo hi : Nat) (a : Option Addr) (n c : Nat) (ts : List GRow) (m : Int) (w : World) (hs : SmV ts n) (h0 : 0 ≤ m) (h1 : m ≤ 268435456) (ho : OwnGr w lo hi a n c ts) :
    Calls Try.prog 20 #[.slice a n c, .int .i64 m] w fun e w' => e = .returned (.int .i64 (m + vmk ts n)) ∧ OwnGr w' lo hi a n c (markV m ts) ∧ Apart lo hi w w' := by
  obtain ⟨cs, ho⟩ := ho
  exact markGroupS_any lo hi a n c ts cs m w hs.row hs.mk' h0 h1 ho
theorem heldGroupSG (a : Option Addr) (n c : Nat) (ts : List GRow) (m : Int) (w : World) (hs : SmV ts n) (h0 : 0 ≤ m) (h1 : m ≤ 268435456) (ha : AtV w a (markV m ts)) :
    Calls Try.prog 36 #[.slice a n c, .int .i64 m] w fun e w' => e = .returned (.int .i64 (m + vmk ts n)) ∧ Below w.heap.size w w' :=
  heldGroupS_any a n c ts m w hs.1 hs.row hs.mk' h0 h1 ha

end Go.Proofs.Ytlfljfmhhnoinaa
