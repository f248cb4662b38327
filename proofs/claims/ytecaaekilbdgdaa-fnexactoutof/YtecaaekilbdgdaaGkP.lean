/- Plain: what makes a sink good. No Go function is spoken of here. -/
import Derived.Test.YtecaaekilbdgdaaSkkG
namespace Go.Proofs.Ytecaaekilbdgdaa
open Go.RowKit

/-- What lies in a list from a place to another one. -/
def seg (src : List Int) (a b : Int) : List Int := (src.drop a.toNat).take (b - a).toNat
/-- One that is stored, behind the number no and behind the first u of the source. -/
def pgB (src : List Int) (t no u : Int) (p : TPrepared) : Bool := decide (p.1 = no + 1) && decide (u ≤ p.2.1) && decide (p.2.1 ≤ t) && decide (p.2.2 = seg src u p.2.1)
def pgsB (src : List Int) (t : Int) : Int → Int → List TPrepared → Bool
  | _, _, [] => true
  | no, u, p :: ps => pgB src t no u p && pgsB src t (no + 1) p.2.1 ps
/-- How much of the source was read for what is stored. -/
def upF : Int → List TPrepared → Int
  | u, [] => u
  | _, p :: ps => upF p.2.1 ps
def hdB (x : TSink) : Bool := decide (x.1.length ≤ 30) && (decide (0 ≤ x.2.1) && decide (x.2.1 ≤ x.1.length)) && (decide (0 ≤ x.2.2.2.2.2.2) && decide (x.2.2.2.2.2.2 ≤ x.2.1)) && (decide (0 ≤ x.2.2.2.2.2.1) && decide (x.2.2.2.2.2.1 ≤ 1000)) && decide (x.2.2.2.1.length ≤ 4) && decide (x.2.2.2.2.2.1 + x.2.2.2.1.length ≤ 1000)
def gkB (x : TSink) : Bool := hdB x && pgsB x.1 x.2.1 x.2.2.2.2.2.1 x.2.2.2.2.2.2 x.2.2.2.1 && decide (x.2.2.1 = seg x.1 (upF x.2.2.2.2.2.2 x.2.2.2.1) x.2.1) && decide (x.2.2.2.2.1 = seg x.1 0 x.2.2.2.2.2.2)

theorem upF_append (u : Int) (ps : List TPrepared) (p : TPrepared) : upF u (ps ++ [p]) = p.2.1 := by
  induction ps generalizing u with
  | nil => rfl
  | cons q ps ih => exact ih q.2.1
theorem upF_take {u : Int} {ps : List TPrepared} {k : Nat} {p : TPrepared} (h : ps[k]? = some p) : upF u (ps.take (k + 1)) = p.2.1 := by
  have hk := (List.getElem?_eq_some_iff.1 h).1
  rw [List.take_add_one, h]
  exact upF_append _ _ _
theorem upF_last {u : Int} {ps : List TPrepared} {n : Nat} {p : TPrepared} (hn : ps.length = n + 1) (h : ps[n]? = some p) : upF u ps = p.2.1 := by
  have q := upF_take (u := u) h
  rwa [List.take_of_length_le (by omega)] at q
theorem upF_nil {u : Int} {ps : List TPrepared} (h : ps.length = 0) : upF u ps = u := by
  obtain rfl := List.length_eq_zero_iff.1 h
  rfl
/-- One round of the look at what is stored. -/
theorem pgsB_step {src : List Int} {t no u : Int} {ps : List TPrepared} {k : Nat} {p : TPrepared} (h : ps[k]? = some p) :
    pgsB src t no u (ps.drop k) = (pgB src t no u p && pgsB src t (no + 1) p.2.1 (ps.drop (k + 1))) := by
  have hk := (List.getElem?_eq_some_iff.1 h).1
  have hg := (List.getElem?_eq_some_iff.1 h).2
  rw [List.drop_eq_getElem_cons hk, hg]
  rfl
theorem pgsB_done {src : List Int} {t no u : Int} {ps : List TPrepared} {k : Nat} (h : ps.length ≤ k) : pgsB src t no u (ps.drop k) = true := by
  rw [List.drop_eq_nil_of_le h]
  rfl
/-- What is stored says good: how much was read for it lies between what was given out and what is read. -/
theorem pgsB_up {src : List Int} {t : Int} : ∀ {no u : Int} {ps : List TPrepared}, pgsB src t no u ps = true → u ≤ t → u ≤ upF u ps ∧ upF u ps ≤ t
  | _, u, [], _, h => ⟨Int.le_refl _, h⟩
  | no, u, p :: ps, h, _ => by
    unfold pgsB pgB at h
    simp only [Bool.and_eq_true, decide_eq_true_eq] at h
    have q := pgsB_up h.2 h.1.1.2
    exact ⟨Int.le_trans h.1.1.1.2 q.1, q.2⟩
theorem seg_len {src : List Int} {a b : Int} (h0 : 0 ≤ a) (h1 : a ≤ b) (h2 : b ≤ src.length) : (seg src a b).length = (b - a).toNat := by
  unfold seg
  rw [List.length_take, List.length_drop]
  omega
theorem seg_self (src : List Int) (a : Int) : seg src a a = [] := by simp [seg]
theorem seg_all (src : List Int) : seg src 0 src.length = src := by simp [seg]
theorem seg_succ {src : List Int} {a b : Int} {x : Int} (h0 : 0 ≤ a) (h1 : a ≤ b) (h : src[b.toNat]? = some x) : seg src a (b + 1) = seg src a b ++ [x] := by
  unfold seg
  rw [show (b + 1 - a).toNat = (b - a).toNat + 1 by omega, List.take_add_one]
  congr 1
  rw [List.getElem?_drop, show a.toNat + (b - a).toNat = b.toNat by omega, h]
  rfl
theorem seg_join {src : List Int} {a b c : Int} (h0 : 0 ≤ a) (h1 : a ≤ b) (h2 : b ≤ c) : seg src a b ++ seg src b c = seg src a c := by
  unfold seg
  have e : src.drop b.toNat = (src.drop a.toNat).drop (b - a).toNat := by rw [List.drop_drop]; congr 1; omega
  rw [e, show (c - a).toNat = (b - a).toNat + (c - b).toNat by omega, List.take_add]

end Go.Proofs.Ytecaaekilbdgdaa
