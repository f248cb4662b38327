/- Plain: what makes a snap good, and what is summed up in it. No Go function is spoken of here. -/
import Derived.Test.YthfndafgllcelaaSnpG
namespace Go.Proofs.Ythfndafgllcelaa
open Go.RowKit

def amB (x : Int) : Bool := decide (0 ≤ x) && decide (x ≤ 2000000000)
def stB (x : Int) : Bool := decide (1 ≤ x) && decide (x ≤ 1000000)
def wdB (x : Int) : Bool := decide (0 ≤ x) && decide (x ≤ 1000000)
theorem amB_iff {x : Int} : amB x = true ↔ 0 ≤ x ∧ x ≤ 2000000000 := by simp [amB]
theorem stB_iff {x : Int} : stB x = true ↔ 1 ≤ x ∧ x ≤ 1000000 := by simp [stB]
theorem wdB_iff {x : Int} : wdB x = true ↔ 0 ≤ x ∧ x ≤ 1000000 := by simp [wdB]
def prB (p : TProc) : Bool := amB p.1 && amB p.2.1 && (p.2.2 || decide (p.2.1 = 0))
def rcB (w : TWire) : Bool := w.2.2 || decide (0 < w.2.1.length)
def hwB (w : TWire) : Bool := decide (0 < w.1.length)
def usB (w : TWire) : Bool := hwB w || rcB w
def wiB (w : TWire) : Bool := decide (w.1.length ≤ 12) && w.1.all wdB && decide (w.2.1.length ≤ 200) && w.2.1.all stB
def dnB (ps : List TProc) (k : Nat) : Bool := (ps.getD k (0, 0, false)).2.2
/-- What is asked of the wire number k of n processes. -/
def atB (n : Nat) (ps : List TProc) (k : Nat) (w : TWire) : Bool := wiB w && !(decide (k / n = k % n) && usB w) && !(!dnB ps (k % n) && rcB w)
def wsB (n : Nat) (ps : List TProc) : Nat → List TWire → Bool
  | _, [] => true
  | k, w :: ws => atB n ps k w && wsB n ps (k + 1) ws
def pAmt (ps : List TProc) : Int := (ps.map (fun p => p.1)).sum
def pSav (ps : List TProc) : Int := (ps.map (fun p => p.2.1)).sum
def wAmt (ws : List TWire) : Int := (ws.map (fun w => w.1.sum)).sum
def wRec (ws : List TWire) : Int := (ws.map (fun w => w.2.1.sum)).sum
def amtS (x : TSnap) : Int := pAmt x.1 + wAmt x.2
def recS (x : TSnap) : Int := pSav x.1 + wRec x.2
def gsB (x : TSnap) : Bool := decide (2 ≤ x.1.length) && decide (x.1.length ≤ 4) && decide (x.2.length = x.1.length * x.1.length) && x.1.all prB && wsB x.1.length x.1 0 x.2 && decide (amtS x + recS x ≤ 2000000000)

theorem prB_le {p : TProc} (h : prB p = true) : 0 ≤ p.1 ∧ p.1 ≤ 2000000000 ∧ 0 ≤ p.2.1 ∧ p.2.1 ≤ 2000000000 := by
  unfold prB at h
  simp only [Bool.and_eq_true] at h
  have h1 := amB_iff.1 h.1.1
  have h2 := amB_iff.1 h.1.2
  omega
theorem sum_le {l : List Int} {M : Int} (h : ∀ x ∈ l, 0 ≤ x ∧ x ≤ M) : 0 ≤ l.sum ∧ l.sum ≤ M * l.length := by
  induction l with
  | nil => simp
  | cons x l ih =>
    have h1 := h x (by simp)
    have h2 := ih (fun y hy => h y (by simp [hy]))
    rw [List.sum_cons, List.length_cons]
    push_cast
    rw [Int.mul_add, Int.mul_one]
    omega
theorem sum_all {l : List Int} {P : Int → Bool} (hP : ∀ x, P x = true → 0 ≤ x ∧ x ≤ 1000000) (h : l.all P = true) : 0 ≤ l.sum ∧ l.sum ≤ 1000000 * l.length :=
  sum_le (fun x hx => hP x (List.all_eq_true.1 h x hx))
theorem wdB_le {x : Int} (h : wdB x = true) : 0 ≤ x ∧ x ≤ 1000000 := wdB_iff.1 h
theorem stB_le {x : Int} (h : stB x = true) : 0 ≤ x ∧ x ≤ 1000000 := by have := stB_iff.1 h; omega
theorem wiB_le {w : TWire} (h : wiB w = true) : w.1.length ≤ 12 ∧ w.2.1.length ≤ 200 ∧ 0 ≤ w.1.sum ∧ w.1.sum ≤ 12000000 ∧ 0 ≤ w.2.1.sum ∧ w.2.1.sum ≤ 200000000 ∧ (∀ x ∈ w.1, 0 ≤ x ∧ x ≤ 1000000) ∧ (∀ x ∈ w.2.1, 0 ≤ x ∧ x ≤ 1000000) := by
  unfold wiB at h
  simp only [Bool.and_eq_true, decide_eq_true_eq] at h
  have h1 := sum_all (fun _ => wdB_le) h.1.1.2
  have h2 := sum_all (fun _ => stB_le) h.2
  have h3 := h.1.1.1
  have h4 := h.1.2
  refine ⟨h3, h4, h1.1, by omega, h2.1, by omega, fun x hx => wdB_le (List.all_eq_true.1 h.1.1.2 x hx), fun x hx => stB_le (List.all_eq_true.1 h.2 x hx)⟩
/-- Each process so far. -/
def PsOk (ps : List TProc) : Prop := ∀ p ∈ ps, 0 ≤ p.1 ∧ p.1 ≤ 2000000000 ∧ 0 ≤ p.2.1 ∧ p.2.1 ≤ 2000000000
def WsOk (ws : List TWire) : Prop := ∀ w ∈ ws, w.1.length ≤ 12 ∧ w.2.1.length ≤ 200 ∧ 0 ≤ w.1.sum ∧ w.1.sum ≤ 12000000 ∧ 0 ≤ w.2.1.sum ∧ w.2.1.sum ≤ 200000000 ∧ (∀ x ∈ w.1, 0 ≤ x ∧ x ≤ 1000000) ∧ (∀ x ∈ w.2.1, 0 ≤ x ∧ x ≤ 1000000)
theorem psOk_of {ps : List TProc} (h : ps.all prB = true) : PsOk ps := fun p hp => prB_le (List.all_eq_true.1 h p hp)
theorem wsOk_of {n : Nat} {ps : List TProc} : ∀ {k : Nat} {ws : List TWire}, wsB n ps k ws = true → WsOk ws
  | _, [], _ => fun w hw => by cases hw
  | k, w :: ws, h => by
    unfold wsB at h
    rw [Bool.and_eq_true] at h
    intro v hv
    rcases List.mem_cons.1 hv with rfl | hv
    · have h1 := h.1
      unfold atB at h1
      simp only [Bool.and_eq_true] at h1
      exact wiB_le h1.1.1
    · exact wsOk_of h.2 v hv

/-- Sums of the first so many. -/
def sumTo {α : Type} (f : α → Int) (xs : List α) (k : Nat) : Int := ((xs.take k).map f).sum
theorem sumTo_zero {α : Type} (f : α → Int) (xs : List α) : sumTo f xs 0 = 0 := by simp [sumTo]
theorem sumTo_succ {α : Type} (f : α → Int) {xs : List α} {k : Nat} {x : α} (h : xs[k]? = some x) : sumTo f xs (k + 1) = sumTo f xs k + f x := by
  have hk := (List.getElem?_eq_some_iff.1 h).1
  unfold sumTo
  rw [List.take_succ_eq_append_getElem hk, List.map_append, List.sum_append, (List.getElem?_eq_some_iff.1 h).2]
  simp
theorem sumTo_all {α : Type} (f : α → Int) (xs : List α) {n : Nat} (h : xs.length = n) : sumTo f xs n = (xs.map f).sum := by
  unfold sumTo
  rw [List.take_of_length_le (by omega)]
theorem sumTo_le {α : Type} (f : α → Int) {xs : List α} {M : Int} (hM : 0 ≤ M) (h : ∀ x ∈ xs, 0 ≤ f x ∧ f x ≤ M) (k : Nat) : 0 ≤ sumTo f xs k ∧ sumTo f xs k ≤ M * k := by
  have q := sum_le (l := (xs.take k).map f) (M := M) (fun y hy => by
    obtain ⟨x, hx, rfl⟩ := List.mem_map.1 hy
    exact h x (List.mem_of_mem_take hx))
  have h1 : (((xs.take k).map f).length : Int) ≤ k := by simp; omega
  have h2 := Int.mul_le_mul_of_nonneg_left h1 hM
  unfold sumTo
  omega

/-- The sums of what is good so far. -/
theorem amt_le {ps : List TProc} {ws : List TWire} {n0 n1 : Nat} (hp : PsOk ps) (hw : WsOk ws) (h0 : ps.length = n0) (h1 : ws.length = n1) (l0 : n0 ≤ 4) (l1 : n1 ≤ 16) :
    0 ≤ pAmt ps + wAmt ws ∧ pAmt ps + wAmt ws ≤ 20000000000 ∧ 0 ≤ pSav ps + wRec ws ∧ pSav ps + wRec ws ≤ 20000000000 := by
  have q1 := sumTo_le (fun p : TProc => p.1) (xs := ps) (M := 2000000000) (by omega) (fun p h => by have := hp p h; omega) n0
  have q2 := sumTo_le (fun p : TProc => p.2.1) (xs := ps) (M := 2000000000) (by omega) (fun p h => by have := hp p h; omega) n0
  have q3 := sumTo_le (fun v : TWire => v.1.sum) (xs := ws) (M := 200000000) (by omega) (fun v h => by have := hw v h; omega) n1
  have q4 := sumTo_le (fun v : TWire => v.2.1.sum) (xs := ws) (M := 200000000) (by omega) (fun v h => by have := hw v h; omega) n1
  rw [sumTo_all _ _ h0] at q1 q2
  rw [sumTo_all _ _ h1] at q3 q4
  have e1 : (ps.map (fun p : TProc => p.1)).sum = pAmt ps := rfl
  have e2 : (ps.map (fun p : TProc => p.2.1)).sum = pSav ps := rfl
  have e3 : (ws.map (fun v : TWire => v.1.sum)).sum = wAmt ws := rfl
  have e4 : (ws.map (fun v : TWire => v.2.1.sum)).sum = wRec ws := rfl
  rw [e1] at q1
  rw [e2] at q2
  rw [e3] at q3
  rw [e4] at q4
  omega

/-- The wires from the k-th on. -/
theorem wsB_step {n : Nat} {ps : List TProc} {ws : List TWire} {k : Nat} {w : TWire} (h : ws[k]? = some w) : wsB n ps k (ws.drop k) = (atB n ps k w && wsB n ps (k + 1) (ws.drop (k + 1))) := by
  have hk := (List.getElem?_eq_some_iff.1 h).1
  rw [List.drop_eq_getElem_cons hk, (List.getElem?_eq_some_iff.1 h).2]
  rfl
theorem wsB_done {n : Nat} {ps : List TProc} {ws : List TWire} {k : Nat} (h : ws.length ≤ k) : wsB n ps k (ws.drop k) = true := by
  rw [List.drop_of_length_le h]; rfl

end Go.Proofs.Ythfndafgllcelaa
