/- Plain: sets of columns as numbers below 64, and what they tell. -/
import Derived.Test.YtociphdhkjoofaaDoorDepP
import Derived.Laws.BitsAllLaws
namespace Go.Proofs.YtociphdhkjoofaaDoor
open Go.RowKit

/-- The columns of a set, rising. -/
def bl (s : Nat) : List Int := ((List.range 6).filter (fun i => s.testBit i)).map Int.ofNat
/-- The set of some columns. -/
def mk (l : List Int) : Nat := l.foldl (fun s k => s ||| 2 ^ k.toNat) 0
/-- One set within another one. -/
def sb (a b : Nat) : Bool := a ||| b == b

theorem sb_iff {a b : Nat} : sb a b = true ↔ a ||| b = b := by unfold sb; exact beq_iff_eq
theorem sb_bit {a b : Nat} (h : sb a b = true) (i : Nat) (hi : a.testBit i = true) : b.testBit i = true := by
  rw [← sb_iff.1 h, Nat.testBit_or, hi]; rfl
theorem sb_of_bits {a b : Nat} (h : ∀ i, a.testBit i = true → b.testBit i = true) : sb a b = true := by
  rw [sb_iff]
  apply Nat.eq_of_testBit_eq
  intro i
  rw [Nat.testBit_or]
  cases ha : a.testBit i with
  | false => rfl
  | true => rw [h i ha]; rfl
theorem sb_refl (a : Nat) : sb a a = true := sb_of_bits fun _ h => h
theorem sb_trans {a b c : Nat} (h : sb a b = true) (k : sb b c = true) : sb a c = true := sb_of_bits fun i hi => sb_bit k i (sb_bit h i hi)
theorem sb_or_left (a b : Nat) : sb a (a ||| b) = true := sb_of_bits fun i hi => by rw [Nat.testBit_or, hi]; rfl
theorem sb_or_right (a b : Nat) : sb b (a ||| b) = true := sb_of_bits fun i hi => by rw [Nat.testBit_or, hi]; simp
theorem sb_or {a b c : Nat} (h : sb a c = true) (k : sb b c = true) : sb (a ||| b) c = true := sb_of_bits fun i hi => by
  rw [Nat.testBit_or] at hi
  cases ha : a.testBit i with
  | true => exact sb_bit h i ha
  | false => rw [ha] at hi; exact sb_bit k i (by simpa using hi)
theorem sb_antisymm {a b : Nat} (h : sb a b = true) (k : sb b a = true) : a = b := by
  have h1 := sb_iff.1 h
  have h2 := sb_iff.1 k
  rw [Nat.or_comm] at h2
  exact h2.symm.trans h1
theorem or_lt64 {a b : Nat} (h : a < 64) (k : b < 64) : a ||| b < 64 := Nat.or_lt_two_pow (n := 6) h k
theorem lt_or {a b : Nat} (h : sb b a = false) : a < a ||| b := by
  have h1 : a ≤ a ||| b := Nat.left_le_or
  have h2 : a ≠ a ||| b := fun e => by
    have : sb b a = true := sb_iff.2 (by rw [Nat.or_comm]; exact e.symm)
    rw [h] at this; cases this
  omega
theorem andNot_sb {a b : Nat} (ha : a < 64) (hb : b < 64) : (a &&& (18446744073709551615 - b) = 0) ↔ sb a b = true := by
  have key : ∀ i, i < 64 → (18446744073709551615 - b).testBit i = !(b.testBit i) := fun i hi => by
    have := Nat.testBit_two_pow_sub_succ (x := b) (n := 64) (by omega) i
    rw [show (2 ^ 64 - (b + 1)) = 18446744073709551615 - b by omega] at this
    rw [this]; simp [hi]
  constructor
  · intro h
    refine sb_of_bits fun i hi => ?_
    have h6 : i < 64 := by
      by_cases h6 : i < 64
      · exact h6
      · rw [Nat.testBit_lt_two_pow (Nat.lt_of_lt_of_le ha (by have : 2 ^ 6 ≤ 2 ^ i := Nat.pow_le_pow_right (by omega) (by omega); omega))] at hi; cases hi
    have h1 : (a &&& (18446744073709551615 - b)).testBit i = false := by rw [h]; simp
    rw [Nat.testBit_and, hi, key i h6] at h1
    simpa using h1
  · intro h
    apply Nat.eq_of_testBit_eq
    intro i
    rw [Nat.testBit_and]
    simp only [Nat.zero_testBit]
    cases hi : a.testBit i with
    | false => rfl
    | true =>
      have h6 : i < 64 := by
        by_cases h6 : i < 64
        · exact h6
        · rw [Nat.testBit_lt_two_pow (Nat.lt_of_lt_of_le ha (by have : 2 ^ 6 ≤ 2 ^ i := Nat.pow_le_pow_right (by omega) (by omega); omega))] at hi; cases hi
      rw [key i h6, sb_bit h i hi]; rfl

/-- Rising lists with the same numbers are the same. -/
theorem srt_ext : ∀ {a b : List Int}, a.Pairwise (· < ·) → b.Pairwise (· < ·) → (∀ x, x ∈ a ↔ x ∈ b) → a = b
  | [], [], _, _, _ => rfl
  | [], y :: b, _, _, h => absurd ((h y).2 (by simp)) (by simp)
  | x :: a, [], _, _, h => absurd ((h x).1 (by simp)) (by simp)
  | x :: a, y :: b, ha, hb, h => by
    obtain ⟨ha1, ha2⟩ := List.pairwise_cons.1 ha
    obtain ⟨hb1, hb2⟩ := List.pairwise_cons.1 hb
    have e : x = y := by
      have h1 := (h x).1 (by simp)
      have h2 := (h y).2 (by simp)
      simp only [List.mem_cons] at h1 h2
      rcases h1 with h1 | h1
      · exact h1
      · rcases h2 with h2 | h2
        · exact h2.symm
        · have := hb1 x h1; have := ha1 y h2; omega
    subst e
    congr 1
    refine srt_ext ha2 hb2 fun z => ?_
    constructor
    · intro hz
      have := (h z).1 (by simp [hz])
      simp only [List.mem_cons] at this
      rcases this with rfl | this
      · have := ha1 z hz; omega
      · exact this
    · intro hz
      have := (h z).2 (by simp [hz])
      simp only [List.mem_cons] at this
      rcases this with rfl | this
      · have := hb1 z hz; omega
      · exact this

theorem mem_bl {s : Nat} {x : Int} : x ∈ bl s ↔ ∃ i : Nat, i < 6 ∧ s.testBit i = true ∧ x = (i : Int) := by
  unfold bl
  simp only [List.mem_map, List.mem_filter, List.mem_range]
  constructor
  · rintro ⟨i, ⟨h1, h2⟩, rfl⟩; exact ⟨i, h1, h2, rfl⟩
  · rintro ⟨i, h1, h2, rfl⟩; exact ⟨i, ⟨h1, h2⟩, rfl⟩
theorem bl_sorted (s : Nat) : (bl s).Pairwise (· < ·) := by
  unfold bl
  rw [List.pairwise_map]
  refine List.Pairwise.imp ?_ ((List.pairwise_lt_range (n := 6)).filter _)
  intro a b h
  show (a : Int) < (b : Int)
  omega
theorem mk_bit (l : List Int) (hl : ∀ x ∈ l, 0 ≤ x) (i : Nat) : (mk l).testBit i = true ↔ (i : Int) ∈ l := by
  have key : ∀ (l : List Int) (s : Nat), (∀ x ∈ l, 0 ≤ x) → ((l.foldl (fun s k => s ||| 2 ^ k.toNat) s).testBit i = true ↔ s.testBit i = true ∨ (i : Int) ∈ l) := by
    intro l
    induction l with
    | nil => intro s _; simp
    | cons x l ih =>
      intro s h
      rw [List.foldl_cons, ih _ (fun y hy => h y (by simp [hy])), Nat.testBit_or, Nat.testBit_two_pow]
      have hx := h x (by simp)
      simp only [Bool.or_eq_true, decide_eq_true_eq, List.mem_cons]
      constructor
      · rintro ((h1 | h1) | h1)
        · exact .inl h1
        · exact .inr (.inl (by omega))
        · exact .inr (.inr h1)
      · rintro (h1 | h1 | h1)
        · exact .inl (.inl h1)
        · exact .inl (.inr (by omega))
        · exact .inr h1
  have := key l 0 hl
  simpa [mk] using this
theorem risB_mem {c p : Int} {l : List Int} (h : risB c p l = true) : l.Pairwise (· < ·) ∧ ∀ x ∈ l, p < x ∧ x < c := by
  induction l generalizing p with
  | nil => exact ⟨List.Pairwise.nil, fun x hx => by cases hx⟩
  | cons z l ih =>
    simp only [risB, Bool.and_eq_true, decide_eq_true_eq] at h
    obtain ⟨h1, h2, h3⟩ := h
    obtain ⟨k1, k2⟩ := ih h3
    refine ⟨List.pairwise_cons.2 ⟨fun x hx => (k2 x hx).1, k1⟩, fun x hx => ?_⟩
    simp only [List.mem_cons] at hx
    rcases hx with rfl | hx
    · exact ⟨h1, h2⟩
    · have := k2 x hx; exact ⟨by omega, this.2⟩
theorem ris_nonneg {c : Int} {l : List Int} (h : ris c l = true) : ∀ x ∈ l, 0 ≤ x := fun x hx => by have := ((risB_mem h).2 x hx).1; omega
theorem bl_mk {c : Int} {l : List Int} (hc : c ≤ 6) (h : ris c l = true) : bl (mk l) = l := by
  refine srt_ext (bl_sorted _) (risB_mem h).1 fun x => ?_
  rw [mem_bl]
  have hn := ris_nonneg h
  constructor
  · rintro ⟨i, _, h2, rfl⟩; exact (mk_bit l hn i).1 h2
  · intro hx
    have h1 := (risB_mem h).2 x hx
    have h0 := hn x hx
    refine ⟨x.toNat, by omega, (mk_bit l hn x.toNat).2 (by rw [Int.toNat_of_nonneg h0]; exact hx), by omega⟩
theorem mk_lt {c : Int} {l : List Int} (hc : c ≤ 6) (h : ris c l = true) : mk l < 64 := by
  refine Nat.lt_pow_two_of_testBit (n := 6) _ fun i hi => ?_
  cases hb : (mk l).testBit i with
  | false => rfl
  | true =>
    have := ((risB_mem h).2 _ ((mk_bit l (ris_nonneg h) i).1 hb)).2
    omega
theorem bl_len (s : Nat) : (bl s).length ≤ 6 := by
  unfold bl
  rw [List.length_map]
  exact Nat.le_trans (List.length_filter_le _ _) (by simp)
theorem bl_in {s : Nat} {x : Int} (h : x ∈ bl s) : 0 ≤ x ∧ x < 6 := by obtain ⟨i, h1, _, rfl⟩ := mem_bl.1 h; omega

/-- What is told, by one step and another one, and no more: T of S. -/
def clsd (l : List (Nat × Nat)) (T : Nat) : Prop := ∀ d ∈ l, sb d.1 T = true → sb d.2 T = true
structure IsClo (l : List (Nat × Nat)) (S T : Nat) : Prop where
  lt : T < 64
  has : sb S T = true
  all : clsd l T
  least : ∀ U, sb S U = true → clsd l U → sb T U = true
theorem IsClo.eq {l : List (Nat × Nat)} {S T T' : Nat} (h : IsClo l S T) (k : IsClo l S T') : T = T' := sb_antisymm (h.least _ k.has k.all) (k.least _ h.has h.all)
noncomputable def clo (l : List (Nat × Nat)) (S : Nat) : Nat := Classical.epsilon (IsClo l S)
theorem IsClo.clo_eq {l : List (Nat × Nat)} {S T : Nat} (h : IsClo l S T) : clo l S = T := (Classical.epsilon_spec (p := IsClo l S) ⟨T, h⟩).eq h
theorem IsClo.is {l : List (Nat × Nat)} {S T : Nat} (h : IsClo l S T) : IsClo l S (clo l S) := by rw [h.clo_eq]; exact h
def dm (d : Dep) : Nat × Nat := (mk d.1, mk d.2)
def dms (l : List Dep) : List (Nat × Nat) := l.map dm

end Go.Proofs.YtociphdhkjoofaaDoor
