/- Plain: covers over sets of columns. -/
import Derived.Test.YtpnaoahlfhbbmaaDoorCloU
namespace Go.Proofs.YtpnaoahlfhbbmaaDoor
open Go.RowKit

def addT (M : List (Nat × Nat)) (p : Nat × Nat) : List (Nat × Nat) := if p ∈ M then M else M ++ [p]
def partT (f : Nat) (M : List (Nat × Nat)) (ks : List Int) : List (Nat × Nat) := ks.foldl (fun M k => addT M (f, 2 ^ k.toNat)) M
def partD (M : List (Nat × Nat)) (d : Dep) : List (Nat × Nat) := partT (mk d.1) M d.2
def partA (l : List Dep) : List (Nat × Nat) := l.foldl partD []
/-- A set without a column. -/
def wo (f : Nat) (c : Int) : Nat := f &&& (18446744073709551615 - 2 ^ c.toNat)
def tatT (M : List (Nat × Nat)) (i : Nat) : Nat × Nat := M.getD i (0, 0)
noncomputable def lessC (i : Nat) (M : List (Nat × Nat)) (c : Int) : List (Nat × Nat) := if sb (tatT M i).2 (clo M (wo (tatT M i).1 c)) then M.set i (wo (tatT M i).1 c, (tatT M i).2) else M
noncomputable def lessL (i : Nat) (M : List (Nat × Nat)) (cs : List Int) : List (Nat × Nat) := cs.foldl (lessC i) M
noncomputable def lessI (M : List (Nat × Nat)) (i : Nat) : List (Nat × Nat) := lessL i M (bl (tatT M i).1)
noncomputable def lessA (M : List (Nat × Nat)) (k : Nat) : List (Nat × Nat) := (List.range k).foldl lessI M
noncomputable def dropG : Nat → Nat → List (Nat × Nat) → List (Nat × Nat)
  | 0, _, M => M
  | f + 1, i, M => if sb (tatT M i).2 (clo (M.eraseIdx i) (tatT M i).1) then dropG f i (M.eraseIdx i) else dropG f (i + 1) M
noncomputable def dropA (M : List (Nat × Nat)) : List (Nat × Nat) := dropG M.length 0 M
noncomputable def coverM (l : List Dep) : List (Nat × Nat) := dropA (lessA (partA l) (partA l).length)
noncomputable def covB (l : List Dep) (C : Int) : Bool := goodDeps l C && decide ((coverM l).length ≤ 10)
def und (p : Nat × Nat) : Dep := (bl p.1, bl p.2)
noncomputable def covL (l : List Dep) (C : Int) : List Dep := if covB l C then (coverM l).map und else []

/-- All sets within the first q columns. -/
def Lim (q : Nat) (M : List (Nat × Nat)) : Prop := ∀ p ∈ M, p.1 < 2 ^ q ∧ p.2 < 2 ^ q
theorem pow64 {q : Nat} (h : q ≤ 6) : 2 ^ q ≤ 64 := by have : 2 ^ q ≤ 2 ^ 6 := Nat.pow_le_pow_right (by omega) h; omega
theorem Lim.sets {q : Nat} {M : List (Nat × Nat)} (h : Lim q M) (hq : q ≤ 6) : Sets M := fun p hp => by have := h p hp; have := pow64 hq; omega
theorem addT_len (M : List (Nat × Nat)) (p : Nat × Nat) : (addT M p).length ≤ M.length + 1 := by unfold addT; split <;> simp
theorem Lim.add {q : Nat} {M : List (Nat × Nat)} {p : Nat × Nat} (h : Lim q M) (hp : p.1 < 2 ^ q ∧ p.2 < 2 ^ q) : Lim q (addT M p) := by
  unfold addT
  split
  · exact h
  · intro x hx
    simp only [List.mem_append, List.mem_singleton] at hx
    rcases hx with hx | rfl
    · exact h x hx
    · exact hp
theorem partT_take {f : Nat} {M : List (Nat × Nat)} {ks : List Int} {j : Nat} (h : j < ks.length) : partT f M (ks.take (j + 1)) = addT (partT f M (ks.take j)) (f, 2 ^ (ks.getD j 0).toNat) := by
  rw [take_succ_getD ks j h]; unfold partT; rw [List.foldl_append]; rfl
theorem partA_take {l : List Dep} {i : Nat} {d : Dep} (h : l[i]? = some d) : partA (l.take (i + 1)) = partD (partA (l.take i)) d := by
  obtain ⟨hi, rfl⟩ := List.getElem?_eq_some_iff.1 h
  rw [List.take_succ_eq_append_getElem hi]; unfold partA; rw [List.foldl_append]; rfl
theorem partT_len (f : Nat) (M : List (Nat × Nat)) (ks : List Int) : (partT f M ks).length ≤ M.length + ks.length := by
  unfold partT
  induction ks generalizing M with
  | nil => simp
  | cons k ks ih => rw [List.foldl_cons]; have := ih (addT M (f, 2 ^ k.toNat)); have := addT_len M (f, 2 ^ k.toNat); simp; omega
theorem partT_lim {q f : Nat} {M : List (Nat × Nat)} {ks : List Int} (h : Lim q M) (hf : f < 2 ^ q) (hk : ∀ k ∈ ks, 0 ≤ k ∧ k < (q : Int)) : Lim q (partT f M ks) := by
  unfold partT
  induction ks generalizing M with
  | nil => exact h
  | cons k ks ih =>
    rw [List.foldl_cons]
    have hk0 := hk k (by simp)
    exact ih (h.add ⟨hf, Nat.pow_lt_pow_right (by omega) (by omega)⟩) (fun x hx => hk x (by simp [hx]))
theorem mk_lim {q : Nat} {l : List Int} (h : ris (q : Int) l = true) : mk l < 2 ^ q := by
  refine Nat.lt_pow_two_of_testBit (n := q) _ fun i hi => ?_
  cases hb : (mk l).testBit i with
  | false => rfl
  | true =>
    have := ((risB_mem h).2 _ ((mk_bit l (ris_nonneg h) i).1 hb)).2
    omega
theorem ris_range {q : Nat} {l : List Int} (h : ris (q : Int) l = true) : ∀ x ∈ l, 0 ≤ x ∧ x < (q : Int) := fun x hx => ⟨ris_nonneg h x hx, ((risB_mem h).2 x hx).2⟩
theorem partA_ok {q : Nat} (hq : q ≤ 6) : ∀ (l : List Dep), (∀ d ∈ l, ris (q : Int) d.1 = true ∧ ris (q : Int) d.2 = true) → ∀ i, i ≤ l.length → Lim q (partA (l.take i)) ∧ (partA (l.take i)).length ≤ i * 6 := by
  intro l hl i
  induction i with
  | zero => intro _; exact ⟨fun p hp => by simp [partA] at hp, by simp [partA]⟩
  | succ i ih =>
    intro hi
    obtain ⟨h1, h2⟩ := ih (by omega)
    have hd := hl l[i] (List.getElem_mem _)
    rw [partA_take (List.getElem?_eq_getElem (by omega : i < l.length))]
    refine ⟨partT_lim h1 (mk_lim hd.1) (ris_range hd.2), ?_⟩
    have h3 := partT_len (mk (l[i]).1) (partA (l.take i)) (l[i]).2
    have h4 := (Told.of (by omega) hd.2).len
    unfold partD
    omega
theorem tatT_of {M : List (Nat × Nat)} {i : Nat} {p : Nat × Nat} (h : M[i]? = some p) : tatT M i = p := by simp [tatT, List.getD, h]
theorem wo_lt {f : Nat} (c : Int) {b : Nat} (h : f < b) : wo f c < b := Nat.lt_of_le_of_lt Nat.and_le_left h
theorem lessC_len (i : Nat) (M : List (Nat × Nat)) (c : Int) : (lessC i M c).length = M.length := by unfold lessC; split <;> simp
theorem lessC_lim {q i : Nat} {M : List (Nat × Nat)} (c : Int) (h : Lim q M) (hi : i < M.length) : Lim q (lessC i M c) := by
  unfold lessC
  split
  · have hp := h (tatT M i) (by rw [tatT_of (List.getElem?_eq_getElem hi)]; exact List.getElem_mem _)
    intro x hx
    rcases List.mem_or_eq_of_mem_set hx with hx | rfl
    · exact h x hx
    · exact ⟨wo_lt c hp.1, hp.2⟩
  · exact h
theorem lessL_take {i : Nat} {M : List (Nat × Nat)} {cs : List Int} {j : Nat} (h : j < cs.length) : lessL i M (cs.take (j + 1)) = lessC i (lessL i M (cs.take j)) (cs.getD j 0) := by
  rw [take_succ_getD cs j h]; unfold lessL; rw [List.foldl_append]; rfl
theorem lessL_len (i : Nat) (M : List (Nat × Nat)) (cs : List Int) : (lessL i M cs).length = M.length := by
  unfold lessL
  induction cs generalizing M with
  | nil => rfl
  | cons c cs ih => rw [List.foldl_cons, ih, lessC_len]
theorem lessL_lim {q i : Nat} {M : List (Nat × Nat)} (cs : List Int) (h : Lim q M) (hi : i < M.length) : Lim q (lessL i M cs) := by
  unfold lessL
  induction cs generalizing M with
  | nil => exact h
  | cons c cs ih => rw [List.foldl_cons]; exact ih (lessC_lim c h hi) (by rw [lessC_len]; exact hi)
theorem lessA_succ (M : List (Nat × Nat)) (k : Nat) : lessA M (k + 1) = lessI (lessA M k) k := by unfold lessA; rw [List.range_succ, List.foldl_append]; rfl
theorem lessA_ok {q : Nat} {M : List (Nat × Nat)} (h : Lim q M) : ∀ k, k ≤ M.length → Lim q (lessA M k) ∧ (lessA M k).length = M.length := by
  intro k
  induction k with
  | zero => intro _; exact ⟨h, rfl⟩
  | succ k ih =>
    intro hk
    obtain ⟨h1, h2⟩ := ih (by omega)
    rw [lessA_succ]
    unfold lessI
    exact ⟨lessL_lim _ h1 (by omega), by rw [lessL_len, h2]⟩
theorem dropG_end {f i : Nat} {M : List (Nat × Nat)} (h : M.length - i = f) (hi : ¬ i < M.length) : dropG f i M = M := by
  obtain rfl : f = 0 := by omega
  rfl
theorem dropG_yes {i : Nat} {M : List (Nat × Nat)} (hi : i < M.length) (h : sb (tatT M i).2 (clo (M.eraseIdx i) (tatT M i).1) = true) : dropG (M.length - i) i M = dropG ((M.eraseIdx i).length - i) i (M.eraseIdx i) := by
  obtain ⟨f, hf⟩ : ∃ f, M.length - i = f + 1 := ⟨M.length - i - 1, by omega⟩
  rw [hf, dropG, if_pos h, show (M.eraseIdx i).length - i = f by rw [List.length_eraseIdx, if_pos hi]; omega]
theorem dropG_no {i : Nat} {M : List (Nat × Nat)} (hi : i < M.length) (h : sb (tatT M i).2 (clo (M.eraseIdx i) (tatT M i).1) = false) : dropG (M.length - i) i M = dropG (M.length - (i + 1)) (i + 1) M := by
  obtain ⟨f, hf⟩ : ∃ f, M.length - i = f + 1 := ⟨M.length - i - 1, by omega⟩
  rw [hf, dropG, if_neg (by rw [h]; simp), show M.length - (i + 1) = f by omega]
theorem Lim.erase {q : Nat} {M : List (Nat × Nat)} (h : Lim q M) (i : Nat) : Lim q (M.eraseIdx i) := fun p hp => h p (List.mem_of_mem_eraseIdx hp)
theorem dropG_lim {q : Nat} : ∀ (f i : Nat) (M : List (Nat × Nat)), Lim q M → Lim q (dropG f i M)
  | 0, _, _, h => h
  | f + 1, i, M, h => by
    unfold dropG
    split
    · exact dropG_lim f i _ (h.erase i)
    · exact dropG_lim f (i + 1) _ h
theorem dropG_len : ∀ (f i : Nat) (M : List (Nat × Nat)), (dropG f i M).length ≤ M.length
  | 0, _, _ => Nat.le_refl _
  | f + 1, i, M => by
    unfold dropG
    split
    · have h1 := dropG_len f i (M.eraseIdx i)
      have h2 : (M.eraseIdx i).length ≤ M.length := by rw [List.length_eraseIdx]; split <;> omega
      omega
    · exact dropG_len f (i + 1) M
theorem ris_bl_all : ∀ q : Nat, q < 7 → ∀ s : Nat, s < 64 → s < 2 ^ q → ris (q : Int) (bl s) = true := by decide +kernel

end Go.Proofs.YtpnaoahlfhbbmaaDoor
