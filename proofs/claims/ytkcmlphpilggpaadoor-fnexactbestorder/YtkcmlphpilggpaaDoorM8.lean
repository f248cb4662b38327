/- Several texts of one proof, in build order: CovP, KeyR, PrtP, BsQ, SzI, CsJ, ClnI. -/
import Derived.Test.YtkcmlphpilggpaaDoorM7
import Derived.Test.YtkcmlphpilggpaaDoorM4
import Derived.Test.YtkcmlphpilggpaaDoorM6
import Derived.Test.YtkcmlphpilggpaaDoorM5
import Derived.Test.YtkcmlphpilggpaaDoorRows
import Derived.Deep.CutBlock
import Derived.Test.YtkcmlphpilggpaaDoorM3

/- Plain: covers over sets of columns. -/
namespace Go.Proofs.YtkcmlphpilggpaaDoor
open Go.RowKit

def addT (M : List (Nat × Nat)) (p : Nat × Nat) : List (Nat × Nat) := if p ∈ M then M else M ++ [p]
def partT (f : Nat) (M : List (Nat × Nat)) (ks : List Int) : List (Nat × Nat) := ks.foldl (fun M k => addT M (f, 2 ^ k.toNat)) M
def partD (M : List (Nat × Nat)) (d : Dep) : List (Nat × Nat) := partT (mk d.1) M d.2
def partA (l : List Dep) : List (Nat × Nat) := l.foldl partD []
/-- A set without a column. -/
def wo (f : Nat) (c : Int) : Nat := f &&& (18446744073709551615 - 2 ^ c.toNat)
def tatT (M : List (Nat × Nat)) (i : Nat) : Nat × Nat := M.getD i (0, 0)
noncomputable def lessC (i : Nat) (M : List (Nat × Nat)) (c : Int) : List (Nat × Nat) := if sb (tatT M i).2 (clo M (wo (tatT M i).1 c)) then M.set i (wo (tatT M i).1 c, (tatT M i).2) else M
noncomputable def lessL (i : Nat) (M : List (Nat × Nat)) (cs : List Int) : List (Nat × Nat) := cs.foldl (lessC i) M
noncomputable def lessI (M : List (Nat × Nat)) (i : Nat) : List (Nat × Nat) := lessL i M (bl (tatT M i).1)
noncomputable def lessA (M : List (Nat × Nat)) (k : Nat) : List (Nat × Nat) := (List.range k).foldl lessI M
noncomputable def dropG : Nat → Nat → List (Nat × Nat) → List (Nat × Nat)
  | 0, _, M => M
  | f + 1, i, M => if sb (tatT M i).2 (clo (M.eraseIdx i) (tatT M i).1) then dropG f i (M.eraseIdx i) else dropG f (i + 1) M
noncomputable def dropA (M : List (Nat × Nat)) : List (Nat × Nat) := dropG M.length 0 M
noncomputable def coverM (l : List Dep) : List (Nat × Nat) := dropA (lessA (partA l) (partA l).length)
noncomputable def covB (l : List Dep) (C : Int) : Bool := goodDeps l C && decide ((coverM l).length ≤ 10)
def und (p : Nat × Nat) : Dep := (bl p.1, bl p.2)
noncomputable def covL (l : List Dep) (C : Int) : List Dep := if covB l C then (coverM l).map und else []

/-- All sets within the first q columns. -/
def Lim (q : Nat) (M : List (Nat × Nat)) : Prop := ∀ p ∈ M, p.1 < 2 ^ q ∧ p.2 < 2 ^ q
theorem pow64 {q : Nat} (h : q ≤ 6) : 2 ^ q ≤ 64 := by have : 2 ^ q ≤ 2 ^ 6 := Nat.pow_le_pow_right (by omega) h; omega
theorem Lim.sets {q : Nat} {M : List (Nat × Nat)} (h : Lim q M) (hq : q ≤ 6) : Sets M := fun p hp => by have := h p hp; have := pow64 hq; omega
theorem addT_len (M : List (Nat × Nat)) (p : Nat × Nat) : (addT M p).length ≤ M.length + 1 := by unfold addT; split <;> simp
theorem Lim.add {q : Nat} {M : List (Nat × Nat)} {p : Nat × Nat} (h : Lim q M) (hp : p.1 < 2 ^ q ∧ p.2 < 2 ^ q) : Lim q (addT M p) := by
  unfold addT
  split
  · exact h
  · intro x hx
    simp only [List.mem_append, List.mem_singleton] at hx
    rcases hx with hx | rfl
    · exact h x hx
    · exact hp
theorem partT_take {f : Nat} {M : List (Nat × Nat)} {ks : List Int} {j : Nat} (h : j < ks.length) : partT f M (ks.take (j + 1)) = addT (partT f M (ks.take j)) (f, 2 ^ (ks.getD j 0).toNat) := by
  rw [take_succ_getD ks j h]; unfold partT; rw [List.foldl_append]; rfl
theorem partA_take {l : List Dep} {i : Nat} {d : Dep} (h : l[i]? = some d) : partA (l.take (i + 1)) = partD (partA (l.take i)) d := by
  obtain ⟨hi, rfl⟩ := List.getElem?_eq_some_iff.1 h
  rw [List.take_succ_eq_append_getElem hi]; unfold partA; rw [List.foldl_append]; rfl
theorem partT_len (f : Nat) (M : List (Nat × Nat)) (ks : List Int) : (partT f M ks).length ≤ M.length + ks.length := by
  unfold partT
  induction ks generalizing M with
  | nil => simp
  | cons k ks ih => rw [List.foldl_cons]; have := ih (addT M (f, 2 ^ k.toNat)); have := addT_len M (f, 2 ^ k.toNat); simp; omega
theorem partT_lim {q f : Nat} {M : List (Nat × Nat)} {ks : List Int} (h : Lim q M) (hf : f < 2 ^ q) (hk : ∀ k ∈ ks, 0 ≤ k ∧ k < (q : Int)) : Lim q (partT f M ks) := by
  unfold partT
  induction ks generalizing M with
  | nil => exact h
  | cons k ks ih =>
    rw [List.foldl_cons]
    have hk0 := hk k (by simp)
    exact ih (h.add ⟨hf, Nat.pow_lt_pow_right (by omega) (by omega)⟩) (fun x hx => hk x (by simp [hx]))
theorem mk_lim {q : Nat} {l : List Int} (h : ris (q : Int) l = true) : mk l < 2 ^ q := by
  refine Nat.lt_pow_two_of_testBit (n := q) _ fun i hi => ?_
  cases hb : (mk l).testBit i with
  | false => rfl
  | true =>
    have := ((risB_mem h).2 _ ((mk_bit l (ris_nonneg h) i).1 hb)).2
    omega
theorem ris_range {q : Nat} {l : List Int} (h : ris (q : Int) l = true) : ∀ x ∈ l, 0 ≤ x ∧ x < (q : Int) := fun x hx => ⟨ris_nonneg h x hx, ((risB_mem h).2 x hx).2⟩
theorem partA_ok {q : Nat} (hq : q ≤ 6) : ∀ (l : List Dep), (∀ d ∈ l, ris (q : Int) d.1 = true ∧ ris (q : Int) d.2 = true) → ∀ i, i ≤ l.length → Lim q (partA (l.take i)) ∧ (partA (l.take i)).length ≤ i * 6 := by
  intro l hl i
  induction i with
  | zero => intro _; exact ⟨fun p hp => by simp [partA] at hp, by simp [partA]⟩
  | succ i ih =>
    intro hi
    obtain ⟨h1, h2⟩ := ih (by omega)
    have hd := hl l[i] (List.getElem_mem _)
    rw [partA_take (List.getElem?_eq_getElem (by omega : i < l.length))]
    refine ⟨partT_lim h1 (mk_lim hd.1) (ris_range hd.2), ?_⟩
    have h3 := partT_len (mk (l[i]).1) (partA (l.take i)) (l[i]).2
    have h4 := (Told.of (by omega) hd.2).len
    unfold partD
    omega
theorem tatT_of {M : List (Nat × Nat)} {i : Nat} {p : Nat × Nat} (h : M[i]? = some p) : tatT M i = p := by simp [tatT, List.getD, h]
theorem wo_lt {f : Nat} (c : Int) {b : Nat} (h : f < b) : wo f c < b := Nat.lt_of_le_of_lt Nat.and_le_left h
theorem lessC_len (i : Nat) (M : List (Nat × Nat)) (c : Int) : (lessC i M c).length = M.length := by unfold lessC; split <;> simp
theorem lessC_lim {q i : Nat} {M : List (Nat × Nat)} (c : Int) (h : Lim q M) (hi : i < M.length) : Lim q (lessC i M c) := by
  unfold lessC
  split
  · have hp := h (tatT M i) (by rw [tatT_of (List.getElem?_eq_getElem hi)]; exact List.getElem_mem _)
    intro x hx
    rcases List.mem_or_eq_of_mem_set hx with hx | rfl
    · exact h x hx
    · exact ⟨wo_lt c hp.1, hp.2⟩
  · exact h
theorem lessL_take {i : Nat} {M : List (Nat × Nat)} {cs : List Int} {j : Nat} (h : j < cs.length) : lessL i M (cs.take (j + 1)) = lessC i (lessL i M (cs.take j)) (cs.getD j 0) := by
  rw [take_succ_getD cs j h]; unfold lessL; rw [List.foldl_append]; rfl
theorem lessL_len (i : Nat) (M : List (Nat × Nat)) (cs : List Int) : (lessL i M cs).length = M.length := by
  unfold lessL
  induction cs generalizing M with
  | nil => rfl
  | cons c cs ih => rw [List.foldl_cons, ih, lessC_len]
theorem lessL_lim {q i : Nat} {M : List (Nat × Nat)} (cs : List Int) (h : Lim q M) (hi : i < M.length) : Lim q (lessL i M cs) := by
  unfold lessL
  induction cs generalizing M with
  | nil => exact h
  | cons c cs ih => rw [List.foldl_cons]; exact ih (lessC_lim c h hi) (by rw [lessC_len]; exact hi)
theorem lessA_succ (M : List (Nat × Nat)) (k : Nat) : lessA M (k + 1) = lessI (lessA M k) k := by unfold lessA; rw [List.range_succ, List.foldl_append]; rfl
theorem lessA_ok {q : Nat} {M : List (Nat × Nat)} (h : Lim q M) : ∀ k, k ≤ M.length → Lim q (lessA M k) ∧ (lessA M k).length = M.length := by
  intro k
  induction k with
  | zero => intro _; exact ⟨h, rfl⟩
  | succ k ih =>
    intro hk
    obtain ⟨h1, h2⟩ := ih (by omega)
    rw [lessA_succ]
    unfold lessI
    exact ⟨lessL_lim _ h1 (by omega), by rw [lessL_len, h2]⟩
theorem dropG_end {f i : Nat} {M : List (Nat × Nat)} (h : M.length - i = f) (hi : ¬ i < M.length) : dropG f i M = M := by
  obtain rfl : f = 0 := by omega
  rfl
theorem dropG_yes {i : Nat} {M : List (Nat × Nat)} (hi : i < M.length) (h : sb (tatT M i).2 (clo (M.eraseIdx i) (tatT M i).1) = true) : dropG (M.length - i) i M = dropG ((M.eraseIdx i).length - i) i (M.eraseIdx i) := by
  obtain ⟨f, hf⟩ : ∃ f, M.length - i = f + 1 := ⟨M.length - i - 1, by omega⟩
  rw [hf, dropG, if_pos h, show (M.eraseIdx i).length - i = f by rw [List.length_eraseIdx, if_pos hi]; omega]
theorem dropG_no {i : Nat} {M : List (Nat × Nat)} (hi : i < M.length) (h : sb (tatT M i).2 (clo (M.eraseIdx i) (tatT M i).1) = false) : dropG (M.length - i) i M = dropG (M.length - (i + 1)) (i + 1) M := by
  obtain ⟨f, hf⟩ : ∃ f, M.length - i = f + 1 := ⟨M.length - i - 1, by omega⟩
  rw [hf, dropG, if_neg (by rw [h]; simp), show M.length - (i + 1) = f by omega]
theorem Lim.erase {q : Nat} {M : List (Nat × Nat)} (h : Lim q M) (i : Nat) : Lim q (M.eraseIdx i) := fun p hp => h p (List.mem_of_mem_eraseIdx hp)
theorem dropG_lim {q : Nat} : ∀ (f i : Nat) (M : List (Nat × Nat)), Lim q M → Lim q (dropG f i M)
  | 0, _, _, h => h
  | f + 1, i, M, h => by
    unfold dropG
    split
    · exact dropG_lim f i _ (h.erase i)
    · exact dropG_lim f (i + 1) _ h
theorem dropG_len : ∀ (f i : Nat) (M : List (Nat × Nat)), (dropG f i M).length ≤ M.length
  | 0, _, _ => Nat.le_refl _
  | f + 1, i, M => by
    unfold dropG
    split
    · have h1 := dropG_len f i (M.eraseIdx i)
      have h2 : (M.eraseIdx i).length ≤ M.length := by rw [List.length_eraseIdx]; split <;> omega
      omega
    · exact dropG_len f (i + 1) M
theorem ris_bl_all : ∀ q : Nat, q < 7 → ∀ s : Nat, s < 64 → s < 2 ^ q → ris (q : Int) (bl s) = true := by decide +kernel

end Go.Proofs.YtkcmlphpilggpaaDoor

/- Plain: all sets of six columns in their order. -/
namespace Go.Proofs.YtkcmlphpilggpaaDoor

/-- All sets of six columns, in their order. -/
def L64 : List Nat := [0, 1, 2, 4, 8, 16, 32, 3, 5, 9, 17, 33, 6, 10, 18, 34, 12, 20, 36, 24, 40, 48, 7, 11, 19, 35, 13, 21, 37, 25, 41, 49, 14, 22, 38, 26, 42, 50, 28, 44, 52, 56, 15, 23, 39, 27, 43, 51, 29, 45, 53, 57, 30, 46, 54, 58, 60, 31, 47, 55, 59, 61, 62, 63]

end Go.Proofs.YtkcmlphpilggpaaDoor

/- Plain: parts of columns, what splits them, and the sets within one in their order. -/
namespace Go.Proofs.YtkcmlphpilggpaaDoor
open Go.RowKit

/-- What of P is not in T. -/
def dif (P T : Nat) : Nat := P &&& (18446744073709551615 - T)
/-- Whether F, which tells T, splits P. -/
def spOk (T P F : Nat) : Bool := sb F P && (!sb P T && !decide (T &&& P = F))
/-- The sets within P, in their order. -/
def ordP (P : Nat) : List Nat := L64.filter fun x => sb x P

theorem not_bit {T i : Nat} (hT : T < 64) (hi : i < 64) : (18446744073709551615 - T).testBit i = !(T.testBit i) := by
  have := Nat.testBit_two_pow_sub_succ (x := T) (n := 64) (by omega) i
  rw [show (2 ^ 64 - (T + 1)) = 18446744073709551615 - T by omega] at this
  rw [this]; simp [hi]
theorem bit_lt {A i : Nat} (hA : A < 64) (h : A.testBit i = true) : i < 6 := by
  by_cases h6 : i < 6
  · exact h6
  · rw [Nat.testBit_lt_two_pow (Nat.lt_of_lt_of_le hA (by have : 2 ^ 6 ≤ 2 ^ i := Nat.pow_le_pow_right (by omega) (by omega); omega))] at h; cases h
theorem dif_bit {P T i : Nat} (hP : P < 64) (hT : T < 64) : (dif P T).testBit i = (P.testBit i && !(T.testBit i)) := by
  unfold dif
  rw [Nat.testBit_and]
  cases h : P.testBit i with
  | false => rfl
  | true => rw [not_bit hT (by have := bit_lt hP h; omega)]
theorem and_lt64 {a b : Nat} (h : a < 64) : a &&& b < 64 := Nat.lt_of_le_of_lt Nat.and_le_left h
theorem dif_lt {P T : Nat} (h : P < 64) : dif P T < 64 := and_lt64 h
theorem mem_blB {s : Nat} {i : Nat} (hs : s < 64) : ((i : Int) ∈ bl s) ↔ s.testBit i = true := by
  rw [mem_bl]
  constructor
  · rintro ⟨j, _, h, e⟩
    have : i = j := by omega
    rw [this]; exact h
  · intro h; exact ⟨i, bit_lt hs h, h, rfl⟩
theorem filter_sorted {l : List Int} (p : Int → Bool) (h : l.Pairwise (· < ·)) : (l.filter p).Pairwise (· < ·) := h.filter _
theorem bl_of_mem {l : List Int} {s : Nat} (hs : s < 64) (h : l.Pairwise (· < ·)) (hm : ∀ x, x ∈ l ↔ ∃ i : Nat, s.testBit i = true ∧ x = (i : Int)) : l = bl s := by
  refine srt_ext h (bl_sorted s) fun x => ?_
  rw [hm, mem_bl]
  constructor
  · rintro ⟨i, h1, h2⟩; exact ⟨i, bit_lt hs h1, h1, h2⟩
  · rintro ⟨i, _, h1, h2⟩; exact ⟨i, h1, h2⟩
theorem within_bl {T P : Nat} (hT : T < 64) (hP : P < 64) : (bl T).filter (fun k => decide (k ∈ bl P)) = bl (T &&& P) := by
  refine bl_of_mem (and_lt64 hT) (filter_sorted _ (bl_sorted T)) fun x => ?_
  rw [List.mem_filter, mem_bl]
  constructor
  · rintro ⟨⟨i, _, h1, rfl⟩, h2⟩
    rw [decide_eq_true_eq, mem_blB hP] at h2
    exact ⟨i, by rw [Nat.testBit_and, h1, h2]; rfl, rfl⟩
  · rintro ⟨i, h1, rfl⟩
    rw [Nat.testBit_and, Bool.and_eq_true] at h1
    exact ⟨⟨i, bit_lt hT h1.1, h1.1, rfl⟩, by rw [decide_eq_true_eq, mem_blB hP]; exact h1.2⟩
theorem without_bl {T F : Nat} (hT : T < 64) (hF : F < 64) : (bl T).filter (fun k => !decide (k ∈ bl F)) = bl (dif T F) := by
  refine bl_of_mem (dif_lt hT) (filter_sorted _ (bl_sorted T)) fun x => ?_
  rw [List.mem_filter, mem_bl]
  constructor
  · rintro ⟨⟨i, _, h1, rfl⟩, h2⟩
    refine ⟨i, ?_, rfl⟩
    rw [dif_bit hT hF, h1]
    cases h : F.testBit i with
    | false => rfl
    | true => rw [decide_eq_true ((mem_blB hF).2 h)] at h2; cases h2
  · rintro ⟨i, h1, rfl⟩
    rw [dif_bit hT hF, Bool.and_eq_true] at h1
    refine ⟨⟨i, bit_lt hT h1.1, h1.1, rfl⟩, ?_⟩
    rw [decide_eq_false (fun h => by rw [(mem_blB hF).1 h] at h1; cases h1.2)]; rfl
theorem rest_bl {T P F : Nat} (hT : T < 64) (hP : P < 64) (hF : F < 64) (h : sb F P = true) : (bl P).filter (fun k => decide (k ∈ bl F) || !decide (k ∈ bl T)) = bl (F ||| dif P T) := by
  refine bl_of_mem (or_lt64 hF (dif_lt hP)) (filter_sorted _ (bl_sorted P)) fun x => ?_
  rw [List.mem_filter, mem_bl]
  constructor
  · rintro ⟨⟨i, _, h1, rfl⟩, h2⟩
    refine ⟨i, ?_, rfl⟩
    rw [Nat.testBit_or, dif_bit hP hT, h1]
    cases hf : F.testBit i with
    | true => rfl
    | false =>
      rw [decide_eq_false (fun h => by rw [(mem_blB hF).1 h] at hf; cases hf)] at h2
      cases ht : T.testBit i with
      | false => rfl
      | true => rw [decide_eq_true ((mem_blB hT).2 ht)] at h2; cases h2
  · rintro ⟨i, h1, rfl⟩
    rw [Nat.testBit_or, dif_bit hP hT] at h1
    cases hf : F.testBit i with
    | true =>
      have := sb_bit h i hf
      exact ⟨⟨i, bit_lt hP this, this, rfl⟩, by rw [decide_eq_true ((mem_blB hF).2 hf)]; rfl⟩
    | false =>
      rw [hf, Bool.false_or, Bool.and_eq_true] at h1
      refine ⟨⟨i, bit_lt hP h1.1, h1.1, rfl⟩, ?_⟩
      rw [decide_eq_false (show ¬ ((i : Int) ∈ bl T) from fun h => by rw [(mem_blB hT).1 h] at h1; cases h1.2)]; simp
theorem and_sb_right {T P : Nat} : sb (T &&& P) P = true := sb_of_bits fun i h => by rw [Nat.testBit_and, Bool.and_eq_true] at h; exact h.2
theorem and_sb_left {T P : Nat} : sb (T &&& P) T = true := sb_of_bits fun i h => by rw [Nat.testBit_and, Bool.and_eq_true] at h; exact h.1
theorem sb_and {F T P : Nat} (h : sb F T = true) (k : sb F P = true) : sb F (T &&& P) = true := sb_of_bits fun i hi => by rw [Nat.testBit_and, sb_bit h i hi, sb_bit k i hi]; rfl
theorem len_le_all : ∀ A : Nat, A < 64 → ∀ B : Nat, B < 64 → sb A B = true → ((bl A).length ≤ (bl B).length ∧ ((bl A).length = (bl B).length → A = B)) := by decide +kernel
/-- A list splits a part, as the model asks it: by how many there are. -/
theorem spOk_len {T P F : Nat} (hT : T < 64) (hP : P < 64) (hF : F < 64) (h1 : sb F P = true) (h2 : sb F T = true) :
    spOk T P F = (decide ((bl F).length < (bl (T &&& P)).length) && decide ((bl (T &&& P)).length < (bl P).length)) := by
  have hA : T &&& P < 64 := and_lt64 hT
  obtain ⟨a1, a2⟩ := len_le_all F hF (T &&& P) hA (sb_and h2 h1)
  obtain ⟨b1, b2⟩ := len_le_all (T &&& P) hA P hP and_sb_right
  unfold spOk
  rw [h1, Bool.true_and, Bool.and_comm]
  congr 1
  · by_cases e : T &&& P = F
    · rw [decide_eq_true e, e]; simp
    · rw [decide_eq_false e, decide_eq_true (by have : ¬ (bl F).length = (bl (T &&& P)).length := fun h => e (a2 h).symm; omega)]; rfl
  · cases hs : sb P T with
    | true =>
      have : T &&& P = P := sb_antisymm and_sb_right (sb_and hs (sb_refl P))
      rw [this]; simp
    | false =>
      have : ¬ (bl (T &&& P)).length = (bl P).length := fun h => by
        have := b2 h
        have h3 : sb P T = true := by rw [← this]; exact and_sb_left
        rw [hs] at h3; cases h3
      rw [decide_eq_true (by omega)]; rfl
/-- All rising lists of a part's columns, as the model makes them. -/
def pickL (p : List Int) (s : List Int) : List Int := s.map fun k => p.getD k.toNat 0
def listsT (p : List Int) (t : Nat) : List (List Int) := (setsU p.length t).map (pickL p)
theorem lists_ord_all : ∀ P : Nat, P < 64 → listsT (bl P) ((bl P).length + 1) = (ordP P).map bl := by decide +kernel
theorem ordP_mem {P F : Nat} (h : F ∈ ordP P) : F < 64 ∧ sb F P = true := by
  obtain ⟨h1, h2⟩ := List.mem_filter.1 h
  refine ⟨?_, h2⟩
  have h3 : L64.all (fun x => decide (x < 64)) = true := by decide +kernel
  rw [List.all_eq_true] at h3
  simpa using h3 F h1
theorem ordP_len_all : ∀ P : Nat, P < 64 → (ordP P).length ≤ 64 := by decide +kernel

end Go.Proofs.YtkcmlphpilggpaaDoor

/- Plain: the best order of a set, out of the best ones of the sets with one less; plans held against each other. -/
namespace Go.Proofs.YtkcmlphpilggpaaDoor
open Go.RowKit

def pO (zs : List Int) (fs : List (List Int)) (S : Nat) : List Int := bestL zs fs (bl S)
def pC (zs : List Int) (fs : List (List Int)) (S : Nat) : Int := costL zs fs (pO zs fs S)
theorem bl_nd : ∀ s : Nat, s < 64 → (bl s).Nodup := by decide +kernel
theorem wo_all : ∀ s : Nat, s < 64 → ∀ k : Nat, k < 6 → woI (bl s) (k : Int) = bl (s &&& (18446744073709551615 - 2 ^ k)) := by decide +kernel
/-- Where a set stands in the order, those with one less stand ahead of it. -/
theorem ahead_all : ∀ P : Nat, P < 64 → (ordP P).all (fun S => (bl S).all fun x => decide ((ordP P).idxOf (S &&& (18446744073709551615 - 2 ^ x.toNat)) < (ordP P).idxOf S)) = true := by decide +kernel
theorem ordP_nd_all : ∀ P : Nat, P < 64 → (ordP P).Nodup := by decide +kernel
theorem ordP_le_all : ∀ P : Nat, P < 64 → (ordP P).all (fun S => decide (S ≤ P)) = true := by decide +kernel
theorem ordP_last_all : ∀ P : Nat, P < 64 → (decide (P ∈ ordP P)) = true := by decide +kernel
theorem pO_perm (zs : List Int) (fs : List (List Int)) {S : Nat} (h : S < 64) : (pO zs fs S).Perm (bl S) := bestL_perm zs fs _ _ (bl_nd S h) rfl
theorem pO_len (zs : List Int) (fs : List (List Int)) {S : Nat} (h : S < 64) : (pO zs fs S).length = (bl S).length := (pO_perm zs fs h).length_eq
theorem cand_pO (zs : List Int) (fs : List (List Int)) {S k : Nat} (h : S < 64) (hk : k < 6) : cand zs fs (bl S) (k : Int) = pO zs fs (S &&& (18446744073709551615 - 2 ^ k)) ++ [(k : Int)] := by
  unfold cand pO
  rw [wo_all S h k hk]
theorem cost_pO (zs : List Int) (fs : List (List Int)) {S k : Nat} (h : S < 64) (hk : k < 6) (hm : (k : Int) ∈ bl S) : costL zs fs (cand zs fs (bl S) (k : Int)) = pC zs fs (S &&& (18446744073709551615 - 2 ^ k)) + lastC zs fs (bl S) := by
  rw [cand_cost zs fs (bl_nd S h) hm, wo_all S h k hk]; rfl
def cmpP (a : List Int) (ca : Int) (b : List Int) (cb : Int) : Int := if sgnI ca cb = 0 then lexI a b else sgnI ca cb
theorem lexI_bef : ∀ (a b : List Int), a.length = b.length → decide (lexI a b < 0) = befB a b
  | [], [], _ => rfl
  | x :: a, y :: b, h => by
    have ih := lexI_bef a b (by simpa using h)
    have e1 : lexI (x :: a) (y :: b) = if sgnI x y = 0 then lexI a b else sgnI x y := rfl
    have e2 : befB (x :: a) (y :: b) = if x = y then befB a b else decide (x < y) := rfl
    rw [e1, e2]
    by_cases e : x = y
    · subst e
      have : sgnI x x = 0 := by unfold sgnI; rw [if_neg (by omega), if_neg (by omega)]
      rw [if_pos this, if_pos rfl, ih]
    · rw [if_neg e]
      by_cases l : x < y
      · have : sgnI x y = -1 := by unfold sgnI; rw [if_pos l]
        rw [this, decide_eq_true l]; rfl
      · have : sgnI x y = 1 := by unfold sgnI; rw [if_neg l, if_pos (by omega)]
        rw [this, decide_eq_false l]; rfl
theorem cmpP_les (zs : List Int) (fs : List (List Int)) {a b : List Int} (h : a.length = b.length) : decide (cmpP a (costL zs fs a) b (costL zs fs b) < 0) = lesB zs fs a b := by
  unfold cmpP lesB
  by_cases c1 : costL zs fs a < costL zs fs b
  · have : sgnI (costL zs fs a) (costL zs fs b) = -1 := by unfold sgnI; rw [if_pos c1]
    rw [this, decide_eq_true c1]; rfl
  · by_cases c2 : costL zs fs a = costL zs fs b
    · have : sgnI (costL zs fs a) (costL zs fs b) = 0 := by unfold sgnI; rw [if_neg c1, if_neg (by omega)]
      rw [this, if_pos rfl, lexI_bef a b h, decide_eq_false c1, decide_eq_true c2]; rfl
    · have : sgnI (costL zs fs a) (costL zs fs b) = 1 := by unfold sgnI; rw [if_neg c1, if_pos (by omega)]
      rw [this, decide_eq_false c1, decide_eq_false c2]; rfl

end Go.Proofs.YtkcmlphpilggpaaDoor

/- Contract of impl.sizeOfJoined: what a join of some tables tells. -/
namespace Go.Proofs.YtkcmlphpilggpaaDoor
open Go.RowKit

set_option maxRecDepth 100000 in
set_option maxHeartbeats 4000000 in
theorem sizeOfJoined_any (sa : Option Addr) (sn sc : Nat) (zs : List Int) (pa : Option Addr) (pn pc : Nat) (fs : List (List Int)) (a : Option Addr) (n c : Nat) (l : List Int) (w : World) (hs : zs.length = sn) (hsa : At w sa zs) (hz : fs.length = pn) (ha : AtS w pa fs) (hl : l.length = n) (hc : n ≤ c) (hla : At w a l) (hg : GsF zs fs) (ht : TbL zs.length l) :
    Calls Tryd.prog 39 #[.agg #[.slice sa sn sc, .slice pa pn pc], .slice a n c] w fun e w' => e = .returned (.int .i64 (szQ zs fs l)) ∧ Below w.heap.size w w' := by
  obtain ⟨W, hW⟩ : ∃ W, W = w.alloc (.cells #[.slice sa sn sc, .slice pa pn pc] 29) := ⟨_, rfl⟩
  have B0 : Below w.heap.size w W := by rw [hW]; exact (Below.refl _ _).alloc (Nat.le_refl _) _
  have q0 : W.cell? ⟨w.heap.size, 0, none⟩ = some (.slice sa sn sc) := by rw [hW]; simp
  have q1 : W.cell? ⟨w.heap.size, 1, none⟩ = some (.slice pa pn pc) := by rw [hW]; simp
  have zW : w.heap.size < W.heap.size := by rw [hW]; simp
  have hsn6 : sn ≤ 6 := by have := hg.n6; omega
  have hn6 : n ≤ 6 := by have := ht.len; have := hg.n6; omega
  have hpn : pn = sn := by have := hg.nf; omega
  have HS := Hid.mk hs
  have HZ := Hid.mk hz
  have HL := Hid.mk hl
  have HSA := Hid.mk (At.below hsa B0)
  have HA := Hid.mk (AtS.below ha B0)
  have HLA := Hid.mk (At.below hla B0)
  have HG := Hid.mk hg
  have HT := Hid.mk ht
  subst hpn
  clear hs hz hl hsa ha hla hg ht
  go_enter Tryd.func39, Tryd.ntmps39
  go_upto_region 2 with fail
  rw [← hW]
  clear hW
  go_wp2
  go_loopw [5, 6, 13] (fun u v i wr => ∃ (k : Nat) (U D : Int), k ≤ n ∧ i = .int .i64 k ∧ u = .int .i64 U ∧ v = .int .i64 D ∧ U = upP zs (l.take k) ∧ D = dnP fs (l.take k) ∧ Below W.heap.size W wr) (fun _ _ i _ => n - (intOf i).toNat)
  case atStart => exact ⟨0, 1, 1, Nat.zero_le _, rfl, rfl, rfl, rfl, rfl, Below.refl _ _⟩
  case round =>
    obtain ⟨k, U, D, hk, rfl, rfl, rfl, hU, hD, hbw⟩ := hrel
    by_cases hlt : k < n
    · obtain ⟨x, hx⟩ : ∃ x, l[k]? = some x := ⟨_, List.getElem?_eq_getElem (by have := HL.out; omega)⟩
      have hxm : x ∈ l := List.mem_of_getElem? hx
      have hxr := HT.out.lt x hxm
      obtain ⟨p, rfl⟩ : ∃ p : Nat, x = (p : Int) := ⟨x.toNat, by omega⟩
      have hp : p < pn := by have := HS.out; omega
      obtain ⟨b, off, rfl, hb, hcl⟩ := HLA.out.some (by have := HL.out; omega)
      have hcx : wr.cell? ⟨b, off + k, none⟩ = some (.int .i64 (p : Nat)) := by
        have h9 := (hbw.cell hb).trans (hcl k (by have := HL.out; omega))
        rw [h9]
        have : l.getD k 0 = (p : Int) := by simp [List.getD, hx]
        rw [this]
      obtain ⟨b2, off2, rfl, hb2, hc2⟩ := HSA.out.some (by have := HS.out; omega)
      obtain ⟨y, hy⟩ : ∃ y, y = zs.getD p 0 := ⟨_, rfl⟩
      have hcy : wr.cell? ⟨b2, off2 + p, none⟩ = some (.int .i64 y) := by rw [hy]; exact (hbw.cell hb2).trans (hc2 p (by have := HS.out; omega))
      have hup := up_next (zs := zs) hx
      rw [← hU, show sizA zs (p : Int) = y by rw [hy]; rfl] at hup
      have hui := upP_in HG.out (HT.out.take (k + 1))
      rw [hup] at hui
      obtain ⟨U2, hU2⟩ : ∃ U2, U * y = U2 := ⟨_, rfl⟩
      rw [hU2] at hui hup
      have hw1 : IntKind.i64.wrap (U * y) = U2 := by rw [hU2]; exact IntWalk.i64_in _ (by omega)
      have hki : (k : Int) < (n : Int) := by omega
      have hkc : k ≤ c := by omega
      have p0 := cell_later hbw q0
      have p1 := cell_later hbw q1
      have HU := Hid.mk hup
      have HD := Hid.mk hD
      have HX := Hid.mk hx
      have HB := Hid.mk hbw
      have HCL := Hid.mk hcl
      clear hup hD hx hbw hcl hc2 hy hU hU2 hui hxm hxr
      obtain ⟨wy, rfl⟩ : ∃ x, x = wr := ⟨_, rfl⟩
      go_wp2
      go_loopw [6, 29] (fun v i wr => ∃ (j : Nat) (E : Int), j ≤ k ∧ i = .int .i64 j ∧ v = .int .i64 E ∧ E = dnP fs (l.take k) * prodL ((l.take j).map (facA fs p)) ∧ Below wy.heap.size wy wr) (fun _ i _ => k - (intOf i).toNat)
      case atStart => exact ⟨0, D, Nat.zero_le _, rfl, rfl, by rw [HD.out]; simp [prodL], Below.refl _ _⟩
      case round =>
        obtain ⟨j, E, hj, rfl, rfl, hE, hbj⟩ := hrel
        by_cases hjt : j < k
        · obtain ⟨o, ho⟩ : ∃ o, l[j]? = some o := ⟨_, List.getElem?_eq_getElem (by have := HL.out; omega)⟩
          have hor := HT.out.lt o (List.mem_of_getElem? ho)
          obtain ⟨q, rfl⟩ : ∃ q : Nat, o = (q : Int) := ⟨o.toNat, by omega⟩
          have hq : q < pn := by have := HS.out; omega
          have hpq : p ≠ q := by
            intro e
            obtain ⟨h1, e1⟩ := List.getElem?_eq_some_iff.1 HX.out
            obtain ⟨h2, e2⟩ := List.getElem?_eq_some_iff.1 ho
            have := (List.getElem_inj (h₀ := h1) (h₁ := h2) HT.out.nd).1 (by rw [e1, e2, e])
            omega
          by_cases hqp : q < p
          · obtain ⟨f, hf⟩ : ∃ f, fs[p]? = some f := ⟨_, List.getElem?_eq_getElem (by have := HZ.out; omega)⟩
            have hfl := HG.out.fl _ _ hf
            obtain ⟨b3, off3, a', c', rfl, hcr, hm1, hax⟩ := atS_rw (AtS.below HA.out (HB.out.trans (hbj.mono HB.out.size))) hf
            rw [hfl] at hcr hm1
            obtain ⟨b4, off4, rfl, hb4, hc4⟩ := hax.some (by omega)
            obtain ⟨y2, hy2⟩ : ∃ y2, y2 = f.getD q 0 := ⟨_, rfl⟩
            have hcq : wr.cell? ⟨b4, off4 + q, none⟩ = some (.int .i64 y2) := by rw [hy2]; exact hc4 q (by omega)
            have hco : wr.cell? ⟨b, off + j, none⟩ = some (.int .i64 (q : Nat)) := by
              have h9 := ((HB.out.trans (hbj.mono HB.out.size)).cell hb).trans (HCL.out j (by have := HL.out; omega))
              rw [h9]
              have : l.getD j 0 = (q : Int) := by simp [List.getD, ho]
              rw [this]
            have hfa : facA fs p q = y2 := by
              unfold facA
              rw [Int.max_eq_left (by omega), Int.min_eq_right (by omega), Int.toNat_natCast, Int.toNat_natCast, hy2]
              simp [List.getD, hf]
            have hst := dn_step (fs := fs) (i := k) (x := (p : Int)) ho
            rw [← hE, hfa] at hst
            have hin := dn_part HG.out HT.out HX.out (show j + 1 ≤ k by omega)
            rw [hst] at hin
            obtain ⟨E2, hE2⟩ : ∃ E2, E * y2 = E2 := ⟨_, rfl⟩
            rw [hE2] at hin hst
            have hw2 : IntKind.i64.wrap (E * y2) = E2 := by rw [hE2]; exact IntWalk.i64_in _ (by omega)
            have hji : (j : Int) < (k : Int) := by omega
            have r1 := cell_later hbj p1
            have HE := Hid.mk hst
            have HBJ := Hid.mk hbj
            have hmx : max (p : Int) (q : Int) = (p : Int) := Int.max_eq_left (by omega)
            have hmn : min (p : Int) (q : Int) = (q : Int) := Int.min_eq_right (by omega)
            clear hst hE hbj ho hf hfl hax hc4 hy2 hfa hE2 hin
            go_wp2
            go_roundw
            case rel => exact ⟨j + 1, E2, by omega, by go_num, rfl, HE.out.symm, HBJ.out⟩
            case measure => simp [intOf]; omega
          · have hqp' : p < q := by omega
            obtain ⟨f, hf⟩ : ∃ f, fs[q]? = some f := ⟨_, List.getElem?_eq_getElem (by have := HZ.out; omega)⟩
            have hfl := HG.out.fl _ _ hf
            obtain ⟨b3, off3, a', c', rfl, hcr, hm1, hax⟩ := atS_rw (AtS.below HA.out (HB.out.trans (hbj.mono HB.out.size))) hf
            rw [hfl] at hcr hm1
            obtain ⟨b4, off4, rfl, hb4, hc4⟩ := hax.some (by omega)
            obtain ⟨y2, hy2⟩ : ∃ y2, y2 = f.getD p 0 := ⟨_, rfl⟩
            have hcq : wr.cell? ⟨b4, off4 + p, none⟩ = some (.int .i64 y2) := by rw [hy2]; exact hc4 p (by omega)
            have hco : wr.cell? ⟨b, off + j, none⟩ = some (.int .i64 (q : Nat)) := by
              have h9 := ((HB.out.trans (hbj.mono HB.out.size)).cell hb).trans (HCL.out j (by have := HL.out; omega))
              rw [h9]
              have : l.getD j 0 = (q : Int) := by simp [List.getD, ho]
              rw [this]
            have hfa : facA fs p q = y2 := by
              unfold facA
              rw [Int.max_eq_right (by omega), Int.min_eq_left (by omega), Int.toNat_natCast, Int.toNat_natCast, hy2]
              simp [List.getD, hf]
            have hst := dn_step (fs := fs) (i := k) (x := (p : Int)) ho
            rw [← hE, hfa] at hst
            have hin := dn_part HG.out HT.out HX.out (show j + 1 ≤ k by omega)
            rw [hst] at hin
            obtain ⟨E2, hE2⟩ : ∃ E2, E * y2 = E2 := ⟨_, rfl⟩
            rw [hE2] at hin hst
            have hw2 : IntKind.i64.wrap (E * y2) = E2 := by rw [hE2]; exact IntWalk.i64_in _ (by omega)
            have hji : (j : Int) < (k : Int) := by omega
            have r1 := cell_later hbj p1
            have HE := Hid.mk hst
            have HBJ := Hid.mk hbj
            have hmx : max (p : Int) (q : Int) = (q : Int) := Int.max_eq_right (by omega)
            have hmn : min (p : Int) (q : Int) = (p : Int) := Int.min_eq_left (by omega)
            clear hst hE hbj ho hf hfl hax hc4 hy2 hfa hE2 hin
            go_wp2
            go_roundw
            case rel => exact ⟨j + 1, E2, by omega, by go_num, rfl, HE.out.symm, HBJ.out⟩
            case measure => simp [intOf]; omega
        · obtain rfl : j = k := by omega
          have hji : ¬ (j : Int) < (j : Int) := by omega
          have HE : Hid (E = dnP fs (l.take (j + 1))) := by show _ = _; rw [dn_next HX.out]; exact hE
          have HBJ := Hid.mk hbj
          clear hE hbj
          go_wp2
          go_roundw
          case rel => exact ⟨j + 1, U2, E, by omega, by go_num, rfl, rfl, HU.out.symm, HE.out, HB.out.trans (HBJ.out.mono HB.out.size)⟩
          case measure => simp [intOf]; omega
    · obtain rfl : k = n := by omega
      have hki : ¬ (k : Int) < (k : Int) := by omega
      rw [List.take_of_length_le (by have := HL.out; omega)] at hU hD
      have hui := upP_in HG.out HT.out
      have hdi := dnP_in HG.out HT.out
      rw [← hU] at hui
      rw [← hD] at hdi
      have HV : Hid (szQ zs fs l = U / D) := by show _ = _; unfold szQ; rw [hU, hD]
      have hd0 : 1 ≤ D := hdi.1
      have hdne : ¬ D = 0 := by omega
      have hdb : (D == 0) = false := beq_eq_false_iff_ne.2 (by omega)
      have hq0 : 0 ≤ U / D := Int.ediv_nonneg (by omega) (by omega)
      have hq1 : U / D ≤ U := Int.ediv_le_self _ (by omega)
      have htd : U.tdiv D = U / D := Int.tdiv_eq_ediv_of_nonneg (by omega)
      have hwq : IntKind.i64.wrap (U.tdiv D) = U / D := by rw [htd]; exact IntWalk.i64_in _ (by omega)
      have HB := Hid.mk hbw
      clear hU hD hbw hdi
      go_wp2
      go_ret
      exact ⟨ret_int (by rw [HV.out]), B0.trans (HB.out.mono (by omega))⟩

end Go.Proofs.YtkcmlphpilggpaaDoor

/- Contracts of costsBy and its function. -/
namespace Go.Proofs.YtkcmlphpilggpaaDoor
open Go.RowKit

/-- Statistics that lie boxed at block b. -/
structure BoxS (w : World) (b : Nat) (zs : List Int) (fs : List (List Int)) : Prop where
  ex : ∃ sa sn sc pa pn pc, w.cell? ⟨b, 0, none⟩ = some (.slice sa sn sc) ∧ w.cell? ⟨b, 1, none⟩ = some (.slice pa pn pc) ∧ zs.length = sn ∧ At w sa zs ∧ fs.length = pn ∧ AtS w pa fs
theorem BoxS.below {w w' : World} {b : Nat} {zs : List Int} {fs : List (List Int)} (h : BoxS w b zs fs) (hb : Below w.heap.size w w') : BoxS w' b zs fs := by
  obtain ⟨sa, sn, sc, pa, pn, pc, h1, h2, h3, h4, h5, h6⟩ := h.ex
  exact ⟨sa, sn, sc, pa, pn, pc, cell_later hb h1, cell_later hb h2, h3, At.below h4 hb, h5, AtS.below h6 hb⟩

set_option maxRecDepth 100000 in
set_option maxHeartbeats 2000000 in
theorem ofLast_any (b : Nat) (zs : List Int) (fs : List (List Int)) (a : Option Addr) (n c : Nat) (l : List Int) (w : World) (hb : BoxS w b zs fs) (hl : l.length = n) (hc : n ≤ c) (hla : At w a l) (hg : GsF zs fs) (ht : TbL zs.length l) :
    Calls Tryd.prog 38 #[.slice a n c, .pointer (some ⟨b, 0, none⟩)] w fun e w' => e = .returned (.int .i64 (lastC zs fs l)) ∧ Below w.heap.size w w' := by
  obtain ⟨sa, sn, sc, pa, pn, pc, h1, h2, h3, h4, h5, h6⟩ := hb.ex
  have K := Hid.mk (sizeOfJoined_any sa sn sc zs pa pn pc fs a n c l w h3 h4 h5 h6 hl hc hla hg ht)
  have HL := Hid.mk hl
  clear h3 h4 h5 h6 hl hla hg ht hb
  by_cases c1 : n < 2
  · have c1' : (n : Int) < 2 := by omega
    have HV : Hid (lastC zs fs l = 0) := by show _ = _; unfold lastC; rw [HL.out, if_pos c1]
    clear c1 K
    go_enter Tryd.func38, Tryd.ntmps38
    go_wp2
    go_ret
    exact ⟨ret_int (by rw [HV.out]), Below.refl _ _⟩
  · have c1' : ¬ (n : Int) < 2 := by omega
    have HV : Hid (lastC zs fs l = szQ zs fs l) := by show _ = _; unfold lastC; rw [HL.out, if_neg c1]
    clear c1
    go_enter Tryd.func38, Tryd.ntmps38
    go_wp2_with fail
    refine K.out.mono ?_
    rintro e w2 ⟨rfl, hb2⟩
    go_wp2
    go_ret
    exact ⟨ret_int (by rw [HV.out]), hb2⟩

theorem costsBy_any (sa : Option Addr) (sn sc : Nat) (zs : List Int) (pa : Option Addr) (pn pc : Nat) (fs : List (List Int)) (w : World) (hs : zs.length = sn) (hsa : At w sa zs) (hz : fs.length = pn) (ha : AtS w pa fs) :
    Calls Tryd.prog 28 #[.agg #[.slice sa sn sc, .slice pa pn pc]] w fun e w' => ∃ b, e = .returned (.agg #[.func (.func 38) #[] #[.pointer (some ⟨b, 0, none⟩)]]) ∧ BoxS w' b zs fs ∧ Below w.heap.size w w' := by
  obtain ⟨W, hW⟩ : ∃ W, W = w.alloc (.cells #[.slice sa sn sc, .slice pa pn pc] 29) := ⟨_, rfl⟩
  have B0 : Below w.heap.size w W := by rw [hW]; exact (Below.refl _ _).alloc (Nat.le_refl _) _
  have zW : W.heap.size = w.heap.size + 1 := by rw [hW]; simp
  have q0 : W.cell? ⟨w.heap.size, 0, none⟩ = some (.slice sa sn sc) := by rw [hW]; simp
  have q1 : W.cell? ⟨w.heap.size, 1, none⟩ = some (.slice pa pn pc) := by rw [hW]; simp
  have HX : Hid (BoxS W w.heap.size zs fs) := ⟨_, _, _, _, _, _, q0, q1, hs, At.below hsa B0, hz, AtS.below ha B0⟩
  have HZW := Hid.mk zW
  have HB0 := Hid.mk B0
  clear hs hsa hz ha B0 q0 q1 zW
  have hst : ∀ (a : Addr) (fn : Fn) (first cap : Array Value) (m : Mode) (w : World), (store a (.func fn first cap) m).run Tryd.prog w = stored Tryd.prog w a (.func fn first cap) m := fun a fn first cap m w => run_store Tryd.prog w a _ m rfl
  have n0 : (W.alloc (.cells #[.nilFunc] 52)).cell? ⟨w.heap.size + 1, 0, none⟩ = some .nilFunc := by rw [← HZW.out]; simp
  have n1 : (W.alloc (.cells #[.nilFunc] 52)).frozen? ⟨w.heap.size + 1, 0, none⟩ = false := by rw [← HZW.out]; simp
  go_enter Tryd.func28, Tryd.ntmps28
  go_wp2_with (rw [hst])
  rw [← hW]
  clear hW n0 n1 hst
  have r0 : (W.alloc (.cells #[.func (.func 38) #[] #[.pointer (some ⟨w.heap.size, 0, none⟩)]] 52)).cell? ⟨w.heap.size + 1, 0, none⟩ = some (.func (.func 38) #[] #[.pointer (some ⟨w.heap.size, 0, none⟩)]) := by rw [← HZW.out]; simp
  exact bodyPost_ret (v := .agg #[.func (.func 38) #[] #[.pointer (some ⟨w.heap.size, 0, none⟩)]]) (by simp [results, Tryd.results28, go_sem, r0]) rfl ⟨w.heap.size, rfl, HX.out.below ((Below.refl _ _).alloc (Nat.le_refl _) _), HB0.out.alloc (by rw [HZW.out]; omega) _⟩

end Go.Proofs.YtkcmlphpilggpaaDoor

/- Contract of slices.Clone at ints. -/
namespace Go.Proofs.YtkcmlphpilggpaaDoor
open Go.RowKit

theorem own_void (w : World) (e : TypeId) (size : Nat) : (w.alloc (.cells #[] e)).ownsRow w.heap.size e size (.slice (some ⟨w.heap.size, 0, none⟩) 0 0) 0 [] :=
  ⟨by simp, .inr ⟨w.heap.size, 0, #[], rfl, Nat.le_refl _, heap_alloc_new w _, by simp, by simp, by simp, by simp⟩⟩
theorem eqNilI (a : Option Addr) (n c : Nat) (w : World) : (binOp .eql 22 (.slice a n c) (.slice none 0 0)).run Tryd.prog w = .ok (.bool a.isNone) w := by
  have he : (Op.equalIn (9999 + 1) 22 (.slice a n c) (.slice none 0 0)).run Tryd.prog w = .ok a.isNone w := by
    unfold Op.equalIn
    simp only [Sem.run_bind, run_underlying Tryd.underlying22, Result.andThen_ok]
    cases a <;> rfl
  have he' : (Op.equal 22 (.slice a n c) (.slice none 0 0)).run Tryd.prog w = .ok a.isNone w := he
  simp only [binOp]
  rw [Sem.run_bind, he']
  rfl

set_option maxHeartbeats 2000000 in
theorem cloneI_any (a : Option Addr) (n c : Nat) (zs : List Int) (w : World) (hz : zs.length = n) (hn : n ≤ 1048576) (hF : a = none → c = 0) (ha : At w a zs) :
    Calls Tryd.prog 52 #[.slice a n c] w fun e w' => ∃ r d, e = .returned (.slice r n d) ∧ w'.ownsRow w.heap.size 3 1 (.slice r n d) n (zs.map (.int .i64)) ∧ Below w.heap.size w w' := by
  obtain ⟨i0, hi, hz0, hz1, hz2⟩ := info_parts Tryd.infoInt
  cases a with
  | none =>
    have hc0 := hF rfl
    subst hc0
    have hM : zs = [] := by rcases ha with h | ⟨b, off, h, _⟩; exact h; cases h
    subst hM
    have hn0 : 0 = n := hz
    subst hn0
    have hq := fun w => eqNilI none 0 0 w
    go_enter Tryd.func52, Tryd.ntmps52
    go_wp2
    go_ret
    exact ⟨none, 0, rfl, World.ownsRow_nil _ _ _ _, Below.refl _ _⟩
  | some ad =>
    have OE := Hid.mk (own_void w 3 1)
    have HA := Hid.mk (ha.alloc (.cells #[] 3))
    have HZ := Hid.mk hz
    clear ha hF hz
    have hq := fun w => eqNilI (some ad) n c w
    go_enter Tryd.func52, Tryd.ntmps52
    go_wp2_with (at_builtin; refine wpList_append_all rfl (.tmp 5) (.tmp 6) 22 rfl w.heap.size 3 i0 (.int .i64 0) 8 Tryd.underlying22 hi hz0 hz1 hz2 rfl (.slice (some ⟨w.heap.size, 0, none⟩) 0 0) 0 [] rfl OE.out (some ad) n c zs rfl HZ.out HA.out (fun h => by cases h) (by unfold maxLen; omega) (by omega) (by simp) ?_)
    intro r1 d1 w1 ho1 hg1
    have HB : Hid (Below w.heap.size w w1) := ((Below.refl _ _).alloc (Nat.le_refl _) _).grown hg1 (by simp) (fun j hj => by simp [Value.ownBlock] at hj; omega)
    have HO : Hid (w1.ownsRow w.heap.size 3 1 (.slice r1 n d1) n (zs.map (.int .i64))) := Hid.mk (by simpa using ho1)
    clear ho1 hg1
    go_wp2
    go_ret
    exact ⟨r1, d1, by first | rfl | simp, HO.out, HB.out⟩

end Go.Proofs.YtkcmlphpilggpaaDoor
