/- Plain: parts of columns, what splits them, and the sets within one in their order. -/
import Derived.Test.YtpnaoahlfhbbmaaDoorCovP
import Derived.Test.YtpnaoahlfhbbmaaDoorKeyQ
import Derived.Test.YtpnaoahlfhbbmaaDoorKeyR
namespace Go.Proofs.YtpnaoahlfhbbmaaDoor
open Go.RowKit

/-- What of P is not in T. -/
def dif (P T : Nat) : Nat := P &&& (18446744073709551615 - T)
/-- Whether F, which tells T, splits P. -/
def spOk (T P F : Nat) : Bool := sb F P && (!sb P T && !decide (T &&& P = F))
/-- The sets within P, in their order. -/
def ordP (P : Nat) : List Nat := L64.filter fun x => sb x P

theorem not_bit {T i : Nat} (hT : T < 64) (hi : i < 64) : (18446744073709551615 - T).testBit i = !(T.testBit i) := by
  have := Nat.testBit_two_pow_sub_succ (x := T) (n := 64) (by omega) i
  rw [show (2 ^ 64 - (T + 1)) = 18446744073709551615 - T by omega] at this
  rw [this]; simp [hi]
theorem bit_lt {A i : Nat} (hA : A < 64) (h : A.testBit i = true) : i < 6 := by
  by_cases h6 : i < 6
  · exact h6
  · rw [Nat.testBit_lt_two_pow (Nat.lt_of_lt_of_le hA (by have : 2 ^ 6 ≤ 2 ^ i := Nat.pow_le_pow_right (by omega) (by omega); omega))] at h; cases h
theorem dif_bit {P T i : Nat} (hP : P < 64) (hT : T < 64) : (dif P T).testBit i = (P.testBit i && !(T.testBit i)) := by
  unfold dif
  rw [Nat.testBit_and]
  cases h : P.testBit i with
  | false => rfl
  | true => rw [not_bit hT (by have := bit_lt hP h; omega)]
theorem and_lt64 {a b : Nat} (h : a < 64) : a &&& b < 64 := Nat.lt_of_le_of_lt Nat.and_le_left h
theorem dif_lt {P T : Nat} (h : P < 64) : dif P T < 64 := and_lt64 h
theorem mem_blB {s : Nat} {i : Nat} (hs : s < 64) : ((i : Int) ∈ bl s) ↔ s.testBit i = true := by
  rw [mem_bl]
  constructor
  · rintro ⟨j, _, h, e⟩
    have : i = j := by omega
    rw [this]; exact h
  · intro h; exact ⟨i, bit_lt hs h, h, rfl⟩
theorem filter_sorted {l : List Int} (p : Int → Bool) (h : l.Pairwise (· < ·)) : (l.filter p).Pairwise (· < ·) := h.filter _
theorem bl_of_mem {l : List Int} {s : Nat} (hs : s < 64) (h : l.Pairwise (· < ·)) (hm : ∀ x, x ∈ l ↔ ∃ i : Nat, s.testBit i = true ∧ x = (i : Int)) : l = bl s := by
  refine srt_ext h (bl_sorted s) fun x => ?_
  rw [hm, mem_bl]
  constructor
  · rintro ⟨i, h1, h2⟩; exact ⟨i, bit_lt hs h1, h1, h2⟩
  · rintro ⟨i, _, h1, h2⟩; exact ⟨i, h1, h2⟩
theorem within_bl {T P : Nat} (hT : T < 64) (hP : P < 64) : (bl T).filter (fun k => decide (k ∈ bl P)) = bl (T &&& P) := by
  refine bl_of_mem (and_lt64 hT) (filter_sorted _ (bl_sorted T)) fun x => ?_
  rw [List.mem_filter, mem_bl]
  constructor
  · rintro ⟨⟨i, _, h1, rfl⟩, h2⟩
    rw [decide_eq_true_eq, mem_blB hP] at h2
    exact ⟨i, by rw [Nat.testBit_and, h1, h2]; rfl, rfl⟩
  · rintro ⟨i, h1, rfl⟩
    rw [Nat.testBit_and, Bool.and_eq_true] at h1
    exact ⟨⟨i, bit_lt hT h1.1, h1.1, rfl⟩, by rw [decide_eq_true_eq, mem_blB hP]; exact h1.2⟩
theorem without_bl {T F : Nat} (hT : T < 64) (hF : F < 64) : (bl T).filter (fun k => !decide (k ∈ bl F)) = bl (dif T F) := by
  refine bl_of_mem (dif_lt hT) (filter_sorted _ (bl_sorted T)) fun x => ?_
  rw [List.mem_filter, mem_bl]
  constructor
  · rintro ⟨⟨i, _, h1, rfl⟩, h2⟩
    refine ⟨i, ?_, rfl⟩
    rw [dif_bit hT hF, h1]
    cases h : F.testBit i with
    | false => rfl
    | true => rw [decide_eq_true ((mem_blB hF).2 h)] at h2; cases h2
  · rintro ⟨i, h1, rfl⟩
    rw [dif_bit hT hF, Bool.and_eq_true] at h1
    refine ⟨⟨i, bit_lt hT h1.1, h1.1, rfl⟩, ?_⟩
    rw [decide_eq_false (fun h => by rw [(mem_blB hF).1 h] at h1; cases h1.2)]; rfl
theorem rest_bl {T P F : Nat} (hT : T < 64) (hP : P < 64) (hF : F < 64) (h : sb F P = true) : (bl P).filter (fun k => decide (k ∈ bl F) || !decide (k ∈ bl T)) = bl (F ||| dif P T) := by
  refine bl_of_mem (or_lt64 hF (dif_lt hP)) (filter_sorted _ (bl_sorted P)) fun x => ?_
  rw [List.mem_filter, mem_bl]
  constructor
  · rintro ⟨⟨i, _, h1, rfl⟩, h2⟩
    refine ⟨i, ?_, rfl⟩
    rw [Nat.testBit_or, dif_bit hP hT, h1]
    cases hf : F.testBit i with
    | true => rfl
    | false =>
      rw [decide_eq_false (fun h => by rw [(mem_blB hF).1 h] at hf; cases hf)] at h2
      cases ht : T.testBit i with
      | false => rfl
      | true => rw [decide_eq_true ((mem_blB hT).2 ht)] at h2; cases h2
  · rintro ⟨i, h1, rfl⟩
    rw [Nat.testBit_or, dif_bit hP hT] at h1
    cases hf : F.testBit i with
    | true =>
      have := sb_bit h i hf
      exact ⟨⟨i, bit_lt hP this, this, rfl⟩, by rw [decide_eq_true ((mem_blB hF).2 hf)]; rfl⟩
    | false =>
      rw [hf, Bool.false_or, Bool.and_eq_true] at h1
      refine ⟨⟨i, bit_lt hP h1.1, h1.1, rfl⟩, ?_⟩
      rw [decide_eq_false (show ¬ ((i : Int) ∈ bl T) from fun h => by rw [(mem_blB hT).1 h] at h1; cases h1.2)]; simp
theorem and_sb_right {T P : Nat} : sb (T &&& P) P = true := sb_of_bits fun i h => by rw [Nat.testBit_and, Bool.and_eq_true] at h; exact h.2
theorem and_sb_left {T P : Nat} : sb (T &&& P) T = true := sb_of_bits fun i h => by rw [Nat.testBit_and, Bool.and_eq_true] at h; exact h.1
theorem sb_and {F T P : Nat} (h : sb F T = true) (k : sb F P = true) : sb F (T &&& P) = true := sb_of_bits fun i hi => by rw [Nat.testBit_and, sb_bit h i hi, sb_bit k i hi]; rfl
theorem len_le_all : ∀ A : Nat, A < 64 → ∀ B : Nat, B < 64 → sb A B = true → ((bl A).length ≤ (bl B).length ∧ ((bl A).length = (bl B).length → A = B)) := by decide +kernel
/-- A list splits a part, as the model asks it: by how many there are. -/
theorem spOk_len {T P F : Nat} (hT : T < 64) (hP : P < 64) (hF : F < 64) (h1 : sb F P = true) (h2 : sb F T = true) :
    spOk T P F = (decide ((bl F).length < (bl (T &&& P)).length) && decide ((bl (T &&& P)).length < (bl P).length)) := by
  have hA : T &&& P < 64 := and_lt64 hT
  obtain ⟨a1, a2⟩ := len_le_all F hF (T &&& P) hA (sb_and h2 h1)
  obtain ⟨b1, b2⟩ := len_le_all (T &&& P) hA P hP and_sb_right
  unfold spOk
  rw [h1, Bool.true_and, Bool.and_comm]
  congr 1
  · by_cases e : T &&& P = F
    · rw [decide_eq_true e, e]; simp
    · rw [decide_eq_false e, decide_eq_true (by have : ¬ (bl F).length = (bl (T &&& P)).length := fun h => e (a2 h).symm; omega)]; rfl
  · cases hs : sb P T with
    | true =>
      have : T &&& P = P := sb_antisymm and_sb_right (sb_and hs (sb_refl P))
      rw [this]; simp
    | false =>
      have : ¬ (bl (T &&& P)).length = (bl P).length := fun h => by
        have := b2 h
        have h3 : sb P T = true := by rw [← this]; exact and_sb_left
        rw [hs] at h3; cases h3
      rw [decide_eq_true (by omega)]; rfl
/-- All rising lists of a part's columns, as the model makes them. -/
def pickL (p : List Int) (s : List Int) : List Int := s.map fun k => p.getD k.toNat 0
def listsT (p : List Int) (t : Nat) : List (List Int) := (setsU p.length t).map (pickL p)
theorem lists_ord_all : ∀ P : Nat, P < 64 → listsT (bl P) ((bl P).length + 1) = (ordP P).map bl := by decide +kernel
theorem ordP_mem {P F : Nat} (h : F ∈ ordP P) : F < 64 ∧ sb F P = true := by
  obtain ⟨h1, h2⟩ := List.mem_filter.1 h
  refine ⟨?_, h2⟩
  have h3 : L64.all (fun x => decide (x < 64)) = true := by decide +kernel
  rw [List.all_eq_true] at h3
  simpa using h3 F h1
theorem ordP_len_all : ∀ P : Nat, P < 64 → (ordP P).length ≤ 64 := by decide +kernel

end Go.Proofs.YtpnaoahlfhbbmaaDoor
