/- Several texts of one proof, in build order: DepG, RisP, DepP, ColP, RepP, AppendAll, CloI, InsP. -/
import Derived.Test.YtociphdhkjoofaaM3
import Derived.Test.YtociphdhkjoofaaM0
import Derived.Laws.BitsAllLaws
import Derived.Test.YtociphdhkjoofaaM1
import Derived.Deep.AppendLies
import Derived.Laws.AppendOwnNone
import Derived.Deep.LoopGhost
import Derived.WalkMore

/- Dependencies as things in memory. -/
namespace Go.Proofs.Ytociphdhkjoofaa
open Go.RowKit

/-- A dependency: From, To. -/
abbrev Dep := List Int × List Int
abbrev RDep : Rep Dep := Rep.pair RInts RInts
theorem RDep_k : RDep.k = 2 := rfl

theorem RDep.at_open {w : World} {cs : List Value} {x : Dep} (h : RDep.At w cs x) : ∃ fa fn fc ta tn tc, cs = [.slice fa fn fc, .slice ta tn tc] ∧
    (x.1.length = fn ∧ fn ≤ 9223372036854775807 ∧ At w fa x.1) ∧ (x.2.length = tn ∧ tn ≤ 9223372036854775807 ∧ At w ta x.2) := by
  obtain ⟨c1, c2, rfl, ⟨fa, fn, fc, rfl, t1, t2, t3, _⟩, ⟨ta, tn, tc, rfl, u1, u2, u3, _⟩⟩ := h
  exact ⟨fa, fn, fc, ta, tn, tc, rfl, ⟨t1, t2, atSl_int.1 t3⟩, ⟨u1, u2, atSl_int.1 u3⟩⟩

/-- What a dependency by value is, slice by slice. -/
theorem RDep.at_iff {w : World} {fa : Option Addr} {fn fc : Nat} {ta : Option Addr} {tn tc : Nat} {x : Dep} (h : RDep.At w [.slice fa fn fc, .slice ta tn tc] x) :
    (x.1.length = fn ∧ fn ≤ 9223372036854775807 ∧ At w fa x.1 ∧ (fa = none → fc = 0)) ∧ (x.2.length = tn ∧ tn ≤ 9223372036854775807 ∧ At w ta x.2 ∧ (ta = none → tc = 0)) := by
  obtain ⟨c1, c2, e, ⟨fa', fn', fc', rfl, t1, t2, t3, t4⟩, ⟨ta', tn', tc', rfl, u1, u2, u3, u4⟩⟩ := h
  simp only [List.cons_append, List.nil_append, List.cons.injEq, Value.slice.injEq, and_true] at e
  obtain ⟨⟨rfl, rfl, rfl⟩, rfl, rfl, rfl⟩ := e
  exact ⟨⟨t1, t2, atSl_int.1 t3, t4⟩, ⟨u1, u2, atSl_int.1 u3, u4⟩⟩

theorem RDep.own_mk {w : World} {F F1 F2 : Nat → Prop} {fs ts : List Int} {fa : Option Addr} {fn fc : Nat} {ta : Option Addr} {tn tc : Nat}
    (h1 : RInts.Own w F1 [.slice fa fn fc] fs) (h2 : RInts.Own w F2 [.slice ta tn tc] ts) (f1 : ∀ b, F1 b → F b) (f2 : ∀ b, F2 b → F b) (d12 : ∀ b, F1 b → ¬ F2 b) : RDep.Own w F [.slice fa fn fc, .slice ta tn tc] (fs, ts) :=
  ⟨[_], [_], F1, F2, rfl, h1, h2, f1, f2, d12⟩

theorem RDep.own_open {w : World} {F : Nat → Prop} {cs : List Value} {x : Dep} (h : RDep.Own w F cs x) : ∃ fa fn fc ta tn tc F1 F2, cs = [.slice fa fn fc, .slice ta tn tc] ∧
    RInts.Own w F1 [.slice fa fn fc] x.1 ∧ RInts.Own w F2 [.slice ta tn tc] x.2 ∧ (∀ b, F1 b → F b) ∧ (∀ b, F2 b → F b) ∧ (∀ b, F1 b → ¬ F2 b) := by
  obtain ⟨c1, d1, F1, F2, rfl, h1, h2, a1, a2, a3⟩ := h
  obtain ⟨ta, tn, tc, tcells, tG, rfl, tl⟩ := h1
  obtain ⟨ca, cn, cc, ccells, cG, rfl, cl⟩ := h2
  exact ⟨ta, tn, tc, ca, cn, cc, F1, F2, rfl, ⟨ta, tn, tc, tcells, tG, rfl, tl⟩, ⟨ca, cn, cc, ccells, cG, rfl, cl⟩, a1, a2, a3⟩

/-- How many slots the laws count for a dependency; and for some. -/
def dcost (x : Dep) : Nat := x.1.length + x.2.length
abbrev dsum (xs : List Dep) (k : Nat) : Nat := szL dcost xs k
theorem dsum_zero (xs : List Dep) : dsum xs 0 = 0 := by simp [dsum, szL]
theorem dsum_succ {xs : List Dep} {k : Nat} {x : Dep} (h : xs[k]? = some x) : dsum xs (k + 1) = dsum xs k + dcost x := szL_succ dcost h
theorem dsum_mono (xs : List Dep) (j k : Nat) (h : j ≤ k) : dsum xs j ≤ dsum xs k := szL_mono dcost xs j k h
theorem dsum_each {xs : List Dep} {n i : Nat} {x : Dep} (hn : xs.length = n) (h : xs[i]? = some x) : dcost x ≤ dsum xs n := by
  have hi := (List.getElem?_eq_some_iff.1 h).1
  have h1 := szL_succ dcost h
  have h2 := szL_mono dcost xs (i + 1) n (by omega)
  show dcost x ≤ szL dcost xs n
  omega

/-- Dependencies within the laws' bound. -/
def SmDep (x : Dep) : Prop := x.1.length ≤ 1048576 ∧ x.2.length ≤ 1048576
theorem SmDep.of {x : Dep} (h : dcost x ≤ 1048576) : SmDep x := by unfold dcost at h; exact ⟨by omega, by omega⟩
def SmD (xs : List Dep) (n : Nat) : Prop := xs.length = n ∧ n + dsum xs n ≤ 1048576
theorem SmD.n {xs : List Dep} {n : Nat} (h : SmD xs n) : n ≤ 1048576 := by have := h.2; omega
theorem SmD.sum {xs : List Dep} {n : Nat} (h : SmD xs n) : dsum xs n ≤ 1048576 := by have := h.2; omega
theorem SmD.each {xs : List Dep} {n : Nat} (h : SmD xs n) {i : Nat} {x : Dep} (hx : xs[i]? = some x) : SmDep x := by
  have := dsum_each h.1 hx
  have := h.2
  exact SmDep.of (by omega)

/-- A slice of dependencies as it is read: what a row of it is. -/
abbrev AtD (w : World) (a : Option Addr) (xs : List Dep) : Prop := AtSl RDep w a xs
theorem AtD.row {w : World} {a : Option Addr} {xs : List Dep} (h : AtD w a xs) (hp : 0 < xs.length) : ∃ b off, a = some ⟨b, off, none⟩ ∧ b < w.heap.size ∧ ∀ (i : Nat) (x : Dep), xs[i]? = some x → ∃ fa fn fc ta tn tc,
    w.cell? ⟨b, off + i * 2, none⟩ = some (.slice fa fn fc) ∧ w.cell? ⟨b, off + i * 2 + 1, none⟩ = some (.slice ta tn tc) ∧ (x.1.length = fn ∧ fn ≤ 9223372036854775807 ∧ At w fa x.1) ∧ (x.2.length = tn ∧ tn ≤ 9223372036854775807 ∧ At w ta x.2) := by
  obtain ⟨b, off, rfl, hc⟩ := AtSl.each h hp
  have row : ∀ (i : Nat) (x : Dep), xs[i]? = some x → ∃ fa fn fc ta tn tc,
    w.cell? ⟨b, off + i * 2, none⟩ = some (.slice fa fn fc) ∧ w.cell? ⟨b, off + i * 2 + 1, none⟩ = some (.slice ta tn tc) ∧ (x.1.length = fn ∧ fn ≤ 9223372036854775807 ∧ At w fa x.1) ∧ (x.2.length = tn ∧ tn ≤ 9223372036854775807 ∧ At w ta x.2) := by
    intro i x hx
    obtain ⟨cs, h1, h2⟩ := hc i x hx
    obtain ⟨fa, fn, fc, ta, tn, tc, rfl, t, u⟩ := RDep.at_open h2
    exact ⟨fa, fn, fc, ta, tn, tc, h1 0 _ rfl, h1 1 _ rfl, t, u⟩
  refine ⟨b, off, rfl, ?_, row⟩
  obtain ⟨fa, fn, fc, ta, tn, tc, h1, _⟩ := row 0 xs[0] (List.getElem?_eq_getElem hp)
  exact World.block_lt_of_cell? _ _ h1

theorem AtD.rowD {w : World} {a : Option Addr} {xs : List Dep} (h : AtD w a xs) (hp : 0 < xs.length) : ∃ b off, a = some ⟨b, off, none⟩ ∧ ∀ (i : Nat) (x : Dep), xs[i]? = some x → ∃ fa fn fc ta tn tc,
    w.cell? ⟨b, off + i * 2, none⟩ = some (.slice fa fn fc) ∧ w.cell? ⟨b, off + i * 2 + 1, none⟩ = some (.slice ta tn tc) ∧ RDep.At w [.slice fa fn fc, .slice ta tn tc] x := by
  obtain ⟨b, off, rfl, hc⟩ := AtSl.each h hp
  refine ⟨b, off, rfl, fun i x hx => ?_⟩
  obtain ⟨cs, h1, h2⟩ := hc i x hx
  obtain ⟨fa, fn, fc, ta, tn, tc, rfl, t, u⟩ := RDep.at_open h2
  exact ⟨fa, fn, fc, ta, tn, tc, h1 0 _ rfl, h1 1 _ rfl, h2⟩
theorem AtD.one {w : World} {b : Nat} {fa : Option Addr} {fn fc : Nat} {ta : Option Addr} {tn tc : Nat} {x : Dep} (h0 : w.cell? ⟨b, 0, none⟩ = some (.slice fa fn fc)) (h1 : w.cell? ⟨b, 1, none⟩ = some (.slice ta tn tc)) (h : RDep.At w [.slice fa fn fc, .slice ta tn tc] x) :
    AtD w (some ⟨b, 0, none⟩) [x] := by
  refine .inr ⟨b, 0, rfl, fun i y hy => ?_⟩
  have hi : i = 0 := by have := (List.getElem?_eq_some_iff.1 hy).1; simp at this; omega
  subst hi
  obtain rfl : x = y := by simpa using hy
  refine ⟨_, fun j v hv => ?_, h⟩
  match j, hv with
  | 0, hv => obtain rfl := Option.some.inj hv; simpa using h0
  | 1, hv => obtain rfl := Option.some.inj hv; simpa using h1

end Go.Proofs.Ytociphdhkjoofaa

/- Plain: rising lists of numbers. -/
namespace Go.Proofs.Ytociphdhkjoofaa
open Go.RowKit

/-- Rising behind p, and below c. -/
def risB (c : Int) : Int → List Int → Bool
  | _, [] => true
  | p, z :: zs => decide (p < z) && (decide (z < c) && risB c z zs)
def ris (c : Int) (l : List Int) : Bool := risB c (-1) l
theorem risB_done (c p : Int) (zs : List Int) (n : Nat) (h : zs.length = n) : risB c p (zs.drop n) = true := by
  rw [List.drop_of_length_le (by omega)]; rfl
theorem risB_step (c p : Int) (zs : List Int) (k : Nat) (h : k < zs.length) : risB c p (zs.drop k) = (decide (p < zs.getD k 0) && (decide (zs.getD k 0 < c) && risB c (zs.getD k 0) (zs.drop (k + 1)))) := by
  rw [List.drop_eq_getElem_cons h]
  have e : zs.getD k 0 = zs[k] := by simp [List.getD, h]
  rw [e]
  rfl

end Go.Proofs.Ytociphdhkjoofaa

/- Plain: rising lists of columns, and dependencies that are good. -/
namespace Go.Proofs.Ytociphdhkjoofaa
open Go.RowKit

def goodDep (c : Int) (d : Dep) : Bool := ris c d.1 && ris c d.2
def allDep (c : Int) (l : List Dep) : Bool := l.all (goodDep c)
def goodDeps (l : List Dep) (c : Int) : Bool := decide (1 ≤ c) && (decide (c ≤ 6) && (decide (l.length ≤ 10) && allDep c l))
theorem allDep_done (c : Int) (xs : List Dep) (n : Nat) (h : xs.length = n) : allDep c (xs.drop n) = true := by
  rw [List.drop_of_length_le (by omega)]; rfl
theorem allDep_step (c : Int) {xs : List Dep} {k : Nat} {x : Dep} (h : xs[k]? = some x) : allDep c (xs.drop k) = (ris c x.1 && (ris c x.2 && allDep c (xs.drop (k + 1)))) := by
  obtain ⟨hk, rfl⟩ := List.getElem?_eq_some_iff.1 h
  rw [List.drop_eq_getElem_cons hk]
  show (ris c xs[k].1 && ris c xs[k].2 && allDep c _) = _
  rw [Bool.and_assoc]

end Go.Proofs.Ytociphdhkjoofaa

/- Plain: sets of columns as numbers below 64, and what they tell. -/
namespace Go.Proofs.Ytociphdhkjoofaa
open Go.RowKit

/-- The columns of a set, rising. -/
def bl (s : Nat) : List Int := ((List.range 6).filter (fun i => s.testBit i)).map Int.ofNat
/-- The set of some columns. -/
def mk (l : List Int) : Nat := l.foldl (fun s k => s ||| 2 ^ k.toNat) 0
/-- One set within another one. -/
def sb (a b : Nat) : Bool := a ||| b == b

theorem sb_iff {a b : Nat} : sb a b = true ↔ a ||| b = b := by unfold sb; exact beq_iff_eq
theorem sb_bit {a b : Nat} (h : sb a b = true) (i : Nat) (hi : a.testBit i = true) : b.testBit i = true := by
  rw [← sb_iff.1 h, Nat.testBit_or, hi]; rfl
theorem sb_of_bits {a b : Nat} (h : ∀ i, a.testBit i = true → b.testBit i = true) : sb a b = true := by
  rw [sb_iff]
  apply Nat.eq_of_testBit_eq
  intro i
  rw [Nat.testBit_or]
  cases ha : a.testBit i with
  | false => rfl
  | true => rw [h i ha]; rfl
theorem sb_refl (a : Nat) : sb a a = true := sb_of_bits fun _ h => h
theorem sb_trans {a b c : Nat} (h : sb a b = true) (k : sb b c = true) : sb a c = true := sb_of_bits fun i hi => sb_bit k i (sb_bit h i hi)
theorem sb_or_left (a b : Nat) : sb a (a ||| b) = true := sb_of_bits fun i hi => by rw [Nat.testBit_or, hi]; rfl
theorem sb_or_right (a b : Nat) : sb b (a ||| b) = true := sb_of_bits fun i hi => by rw [Nat.testBit_or, hi]; simp
theorem sb_or {a b c : Nat} (h : sb a c = true) (k : sb b c = true) : sb (a ||| b) c = true := sb_of_bits fun i hi => by
  rw [Nat.testBit_or] at hi
  cases ha : a.testBit i with
  | true => exact sb_bit h i ha
  | false => rw [ha] at hi; exact sb_bit k i (by simpa using hi)
theorem sb_antisymm {a b : Nat} (h : sb a b = true) (k : sb b a = true) : a = b := by
  have h1 := sb_iff.1 h
  have h2 := sb_iff.1 k
  rw [Nat.or_comm] at h2
  exact h2.symm.trans h1
theorem or_lt64 {a b : Nat} (h : a < 64) (k : b < 64) : a ||| b < 64 := Nat.or_lt_two_pow (n := 6) h k
theorem lt_or {a b : Nat} (h : sb b a = false) : a < a ||| b := by
  have h1 : a ≤ a ||| b := Nat.left_le_or
  have h2 : a ≠ a ||| b := fun e => by
    have : sb b a = true := sb_iff.2 (by rw [Nat.or_comm]; exact e.symm)
    rw [h] at this; cases this
  omega
theorem andNot_sb {a b : Nat} (ha : a < 64) (hb : b < 64) : (a &&& (18446744073709551615 - b) = 0) ↔ sb a b = true := by
  have key : ∀ i, i < 64 → (18446744073709551615 - b).testBit i = !(b.testBit i) := fun i hi => by
    have := Nat.testBit_two_pow_sub_succ (x := b) (n := 64) (by omega) i
    rw [show (2 ^ 64 - (b + 1)) = 18446744073709551615 - b by omega] at this
    rw [this]; simp [hi]
  constructor
  · intro h
    refine sb_of_bits fun i hi => ?_
    have h6 : i < 64 := by
      by_cases h6 : i < 64
      · exact h6
      · rw [Nat.testBit_lt_two_pow (Nat.lt_of_lt_of_le ha (by have : 2 ^ 6 ≤ 2 ^ i := Nat.pow_le_pow_right (by omega) (by omega); omega))] at hi; cases hi
    have h1 : (a &&& (18446744073709551615 - b)).testBit i = false := by rw [h]; simp
    rw [Nat.testBit_and, hi, key i h6] at h1
    simpa using h1
  · intro h
    apply Nat.eq_of_testBit_eq
    intro i
    rw [Nat.testBit_and]
    simp only [Nat.zero_testBit]
    cases hi : a.testBit i with
    | false => rfl
    | true =>
      have h6 : i < 64 := by
        by_cases h6 : i < 64
        · exact h6
        · rw [Nat.testBit_lt_two_pow (Nat.lt_of_lt_of_le ha (by have : 2 ^ 6 ≤ 2 ^ i := Nat.pow_le_pow_right (by omega) (by omega); omega))] at hi; cases hi
      rw [key i h6, sb_bit h i hi]; rfl

/-- Rising lists with the same numbers are the same. -/
theorem srt_ext : ∀ {a b : List Int}, a.Pairwise (· < ·) → b.Pairwise (· < ·) → (∀ x, x ∈ a ↔ x ∈ b) → a = b
  | [], [], _, _, _ => rfl
  | [], y :: b, _, _, h => absurd ((h y).2 (by simp)) (by simp)
  | x :: a, [], _, _, h => absurd ((h x).1 (by simp)) (by simp)
  | x :: a, y :: b, ha, hb, h => by
    obtain ⟨ha1, ha2⟩ := List.pairwise_cons.1 ha
    obtain ⟨hb1, hb2⟩ := List.pairwise_cons.1 hb
    have e : x = y := by
      have h1 := (h x).1 (by simp)
      have h2 := (h y).2 (by simp)
      simp only [List.mem_cons] at h1 h2
      rcases h1 with h1 | h1
      · exact h1
      · rcases h2 with h2 | h2
        · exact h2.symm
        · have := hb1 x h1; have := ha1 y h2; omega
    subst e
    congr 1
    refine srt_ext ha2 hb2 fun z => ?_
    constructor
    · intro hz
      have := (h z).1 (by simp [hz])
      simp only [List.mem_cons] at this
      rcases this with rfl | this
      · have := ha1 z hz; omega
      · exact this
    · intro hz
      have := (h z).2 (by simp [hz])
      simp only [List.mem_cons] at this
      rcases this with rfl | this
      · have := hb1 z hz; omega
      · exact this

theorem mem_bl {s : Nat} {x : Int} : x ∈ bl s ↔ ∃ i : Nat, i < 6 ∧ s.testBit i = true ∧ x = (i : Int) := by
  unfold bl
  simp only [List.mem_map, List.mem_filter, List.mem_range]
  constructor
  · rintro ⟨i, ⟨h1, h2⟩, rfl⟩; exact ⟨i, h1, h2, rfl⟩
  · rintro ⟨i, h1, h2, rfl⟩; exact ⟨i, ⟨h1, h2⟩, rfl⟩
theorem bl_sorted (s : Nat) : (bl s).Pairwise (· < ·) := by
  unfold bl
  rw [List.pairwise_map]
  refine List.Pairwise.imp ?_ ((List.pairwise_lt_range (n := 6)).filter _)
  intro a b h
  show (a : Int) < (b : Int)
  omega
theorem mk_bit (l : List Int) (hl : ∀ x ∈ l, 0 ≤ x) (i : Nat) : (mk l).testBit i = true ↔ (i : Int) ∈ l := by
  have key : ∀ (l : List Int) (s : Nat), (∀ x ∈ l, 0 ≤ x) → ((l.foldl (fun s k => s ||| 2 ^ k.toNat) s).testBit i = true ↔ s.testBit i = true ∨ (i : Int) ∈ l) := by
    intro l
    induction l with
    | nil => intro s _; simp
    | cons x l ih =>
      intro s h
      rw [List.foldl_cons, ih _ (fun y hy => h y (by simp [hy])), Nat.testBit_or, Nat.testBit_two_pow]
      have hx := h x (by simp)
      simp only [Bool.or_eq_true, decide_eq_true_eq, List.mem_cons]
      constructor
      · rintro ((h1 | h1) | h1)
        · exact .inl h1
        · exact .inr (.inl (by omega))
        · exact .inr (.inr h1)
      · rintro (h1 | h1 | h1)
        · exact .inl (.inl h1)
        · exact .inl (.inr (by omega))
        · exact .inr h1
  have := key l 0 hl
  simpa [mk] using this
theorem risB_mem {c p : Int} {l : List Int} (h : risB c p l = true) : l.Pairwise (· < ·) ∧ ∀ x ∈ l, p < x ∧ x < c := by
  induction l generalizing p with
  | nil => exact ⟨List.Pairwise.nil, fun x hx => by cases hx⟩
  | cons z l ih =>
    simp only [risB, Bool.and_eq_true, decide_eq_true_eq] at h
    obtain ⟨h1, h2, h3⟩ := h
    obtain ⟨k1, k2⟩ := ih h3
    refine ⟨List.pairwise_cons.2 ⟨fun x hx => (k2 x hx).1, k1⟩, fun x hx => ?_⟩
    simp only [List.mem_cons] at hx
    rcases hx with rfl | hx
    · exact ⟨h1, h2⟩
    · have := k2 x hx; exact ⟨by omega, this.2⟩
theorem ris_nonneg {c : Int} {l : List Int} (h : ris c l = true) : ∀ x ∈ l, 0 ≤ x := fun x hx => by have := ((risB_mem h).2 x hx).1; omega
theorem bl_mk {c : Int} {l : List Int} (hc : c ≤ 6) (h : ris c l = true) : bl (mk l) = l := by
  refine srt_ext (bl_sorted _) (risB_mem h).1 fun x => ?_
  rw [mem_bl]
  have hn := ris_nonneg h
  constructor
  · rintro ⟨i, _, h2, rfl⟩; exact (mk_bit l hn i).1 h2
  · intro hx
    have h1 := (risB_mem h).2 x hx
    have h0 := hn x hx
    refine ⟨x.toNat, by omega, (mk_bit l hn x.toNat).2 (by rw [Int.toNat_of_nonneg h0]; exact hx), by omega⟩
theorem mk_lt {c : Int} {l : List Int} (hc : c ≤ 6) (h : ris c l = true) : mk l < 64 := by
  refine Nat.lt_pow_two_of_testBit (n := 6) _ fun i hi => ?_
  cases hb : (mk l).testBit i with
  | false => rfl
  | true =>
    have := ((risB_mem h).2 _ ((mk_bit l (ris_nonneg h) i).1 hb)).2
    omega
theorem bl_len (s : Nat) : (bl s).length ≤ 6 := by
  unfold bl
  rw [List.length_map]
  exact Nat.le_trans (List.length_filter_le _ _) (by simp)
theorem bl_in {s : Nat} {x : Int} (h : x ∈ bl s) : 0 ≤ x ∧ x < 6 := by obtain ⟨i, h1, _, rfl⟩ := mem_bl.1 h; omega

/-- What is told, by one step and another one, and no more: T of S. -/
def clsd (l : List (Nat × Nat)) (T : Nat) : Prop := ∀ d ∈ l, sb d.1 T = true → sb d.2 T = true
structure IsClo (l : List (Nat × Nat)) (S T : Nat) : Prop where
  lt : T < 64
  has : sb S T = true
  all : clsd l T
  least : ∀ U, sb S U = true → clsd l U → sb T U = true
theorem IsClo.eq {l : List (Nat × Nat)} {S T T' : Nat} (h : IsClo l S T) (k : IsClo l S T') : T = T' := sb_antisymm (h.least _ k.has k.all) (k.least _ h.has h.all)
noncomputable def clo (l : List (Nat × Nat)) (S : Nat) : Nat := Classical.epsilon (IsClo l S)
theorem IsClo.clo_eq {l : List (Nat × Nat)} {S T : Nat} (h : IsClo l S T) : clo l S = T := (Classical.epsilon_spec (p := IsClo l S) ⟨T, h⟩).eq h
theorem IsClo.is {l : List (Nat × Nat)} {S T : Nat} (h : IsClo l S T) : IsClo l S (clo l S) := by rw [h.clo_eq]; exact h
def dm (d : Dep) : Nat × Nat := (mk d.1, mk d.2)
def dms (l : List Dep) : List (Nat × Nat) := l.map dm

end Go.Proofs.Ytociphdhkjoofaa

/- One more thing at a slice's end. -/
namespace Go.Proofs.Ytociphdhkjoofaa
open Go.RowKit

section
variable {α : Type} {A : Rep α} {w w2 w4 : World} {F H F' : Nat → Prop} {e : TypeId} {a a' : Option Addr} {n c c' : Nat} {xs : List α} {cells vs : List Value} {G : Nat → Nat → Prop} {x : α}

theorem sub_append_left {cells vs : List Value} {o k : Nat} (h : o + k ≤ cells.length) : sub (cells ++ vs) o k = sub cells o k := by
  unfold sub
  rw [List.drop_append_of_le_length (by omega), List.take_append_of_le_length (by simp; omega)]
theorem sub_append_right {cells vs : List Value} {k : Nat} (h : vs.length = k) : sub (cells ++ vs) cells.length k = vs := by
  unfold sub
  rw [List.drop_left, ← h, List.take_length]

/-- Behind 'append(l, x)': the slice lies in its old block, or in a new one. -/
theorem Laid.push (h : Laid A w F e a n c xs cells G n) (hF : ∀ b, F b → b < w.heap.size) (hb : Below w.heap.size w w2) (ho : A.Own w2 H vs x) (hH : ∀ b, H b → w.heap.size ≤ b ∧ b < w2.heap.size)
    (hg : ∀ b, b < w2.heap.size → (Value.slice a n c).ownBlock ≠ some b → w4.heap[b]? = w2.heap[b]?) (hown : w4.ownsRow 0 e A.k (.slice a' (n + 1) c') (n + 1) (cells ++ vs))
    (hat : (Value.slice a' (n + 1) c').ownBlock = (Value.slice a n c).ownBlock ∨ ∀ b, (Value.slice a' (n + 1) c').ownBlock = some b → w2.heap.size ≤ b) (hbig : n + 1 ≤ 9223372036854775807)
    (hF1 : ∀ b, F b → F' b) (hF2 : ∀ b, H b → F' b) (hF3 : ∀ b, (Value.slice a' (n + 1) c').ownBlock = some b → F' b) :
    Laid A w4 F' e a' (n + 1) c' (xs ++ [x]) (cells ++ vs) (fun i => if i = n then H else G i) (n + 1) := by
  have hl := A.ownLen ho
  have hcl : cells.length = n * A.k := h.outer.1
  have hz := hb.size
  have hB : ∀ i b, i < n → G i b → b < w.heap.size ∧ (Value.slice a n c).ownBlock ≠ some b := fun i b hi hg' => ⟨hF b (h.rowF i b hi hg').1, (h.rowF i b hi hg').2⟩
  have hO : ∀ b, (Value.slice a n c).ownBlock = some b → b < w.heap.size := fun b hb' => hF b (h.outerF b hb')
  refine ⟨by simp [h.len], hbig, hown, hF3, fun i y hi hy => ?_, fun i b hi hb' => ?_, fun i j b hi hj hij hb' => ?_⟩
  · by_cases ei : i = n
    · subst ei
      simp only [if_true]
      obtain rfl : x = y := by
        rw [List.getElem?_append_right (by rw [h.len]; exact Nat.le_refl _)] at hy
        simpa [h.len] using hy
      have := sub_append_right (cells := cells) hl
      rw [hcl] at this
      rw [this]
      exact A.frame ho (fun b hb' _ => hg b (hH b hb').2 (fun e' => by have := hO b e'; have := (hH b hb').1; omega))
    · simp only [if_neg ei]
      have hi' : i < n := by omega
      rw [List.getElem?_append_left (by rw [h.len]; exact hi')] at hy
      rw [sub_append_left (by rw [hcl]; exact at_mul hi')]
      exact A.frame (A.ownBelow (h.row i y hi' hy) hb) (fun b hb' _ => hg b (by have := (hB i b hi' hb').1; omega) (hB i b hi' hb').2)
  · by_cases ei : i = n
    · subst ei
      simp only [if_true] at hb'
      refine ⟨hF2 b hb', fun e' => ?_⟩
      have h1 := hH b hb'
      rcases hat with h2 | h2
      · rw [h2] at e'
        have := hO b e'
        omega
      · have := h2 b e'
        omega
    · simp only [if_neg ei] at hb'
      have h1 := hB i b (by omega) hb'
      refine ⟨hF1 b (h.rowF i b (by omega) hb').1, fun e' => ?_⟩
      rcases hat with h2 | h2
      · rw [h2] at e'; exact h1.2 e'
      · have := h2 b e'
        omega
  · by_cases ei : i = n
    · subst ei
      simp only [if_true] at hb'
      simp only [if_neg (Ne.symm hij)]
      intro e'
      have := (hB j b (by omega) e').1
      have := (hH b hb').1
      omega
    · simp only [if_neg ei] at hb'
      by_cases ej : j = n
      · simp only [if_pos ej]
        intro e'
        have := (hB i b (by omega) hb').1
        have := (hH b e').1
        omega
      · simp only [if_neg ej]
        exact h.apart i j b (by omega) (by omega) hij hb'

/-- A slice of nothing. -/
theorem Laid.none (A : Rep α) (w : World) (F : Nat → Prop) (e : TypeId) : Laid A w F e none 0 0 [] [] (fun _ _ => False) 0 :=
  ⟨rfl, by omega, World.ownsRow_nil _ _ _ _, fun b hb => (by cases hb), fun i x h => by omega, fun i b h => by omega, fun i j b h => by omega⟩
end

end Go.Proofs.Ytociphdhkjoofaa

/- 'append(out, xs...)': out the call's own, xs whatever slice of ints: nil, empty or not; and a variable of a row behind the store. -/
namespace Go.Proofs.Ytociphdhkjoofaa
open Go.RowKit

theorem newcell (w : World) (v : Value) (t : TypeId) : (w.alloc (.cells #[v] t)).cell? ⟨w.heap.size, 0, none⟩ = some v := by simp
theorem newfrozen (w : World) (v : Value) (t : TypeId) : (w.alloc (.cells #[v] t)).frozen? ⟨w.heap.size, 0, none⟩ = false := by simp

theorem cell_set {w : World} {a : Addr} {u : Value} (h : w.cell? a = some u) (v : Value) : (w.setCell a v).cell? a = some v := World.cell?_setCell_same' w a v (by simp [h])
theorem size_lt (w : World) (o : Obj) : w.heap.size < (w.alloc o).heap.size := by simp
theorem lt_set {w : World} {a : Addr} {u : Value} (h : w.cell? a = some u) (v : Value) : a.block < (w.setCell a v).heap.size := by
  have := World.block_lt_of_cell? _ _ h
  simpa [World.setCell] using this
theorem keep_far {w : World} {b b' o o' : Nat} {v u : Value} (h : w.cell? ⟨b, o, none⟩ = some v) (hne : b ≠ b') : (w.setCell ⟨b', o', none⟩ u).cell? ⟨b, o, none⟩ = some v :=
  (World.cell?_of_block (Below.heap_setCell w ⟨b', o', none⟩ u b hne)).trans h

theorem owns_slice {w : World} {base : Nat} {e : TypeId} {size : Nat} {v : Value} {n : Nat} {xs : List Value} (h : w.ownsRow base e size v n xs) : ∃ r cap, v = .slice r n cap := by
  rcases h.2 with ⟨rfl, rfl⟩ | ⟨g, cap, cur, rfl, _⟩
  · exact ⟨none, 0, rfl⟩
  · exact ⟨_, cap, rfl⟩

theorem wpList_append_all {P : Program} {w : World} {ops : Array Oper} {rest : List Oper} {o : Oper} {a : Act} {Q : Exit → Act → World → Prop} (hgd : o.guard = none) (s x : Operand) (t : TypeId)
    (ho : o.op = .call { callee := .builtin .append, args := #[s, x], argTypes := #[t, t] })
    (base : Nat) (e : TypeId) (i : TypeInfo) (z : Value) (bytes : Nat) (ht : P.underlying t = some (.slice e)) (hi : P.info? e = some i) (hz : i.zero = some z)
    (hsize : i.size = 1) (hby : i.bytes = bytes) (hzs : z.cells.size = 1)
    (v : Value) (n : Nat) (xs : List Value) (hs : a.eval s = v) (hown : w.ownsRow base e 1 v n xs)
    (ao : Option Addr) (m c : Nat) (zs : List Int) (hx : a.eval x = .slice ao m c) (hl : zs.length = m) (hat : At w ao zs) (hnil : ao = none → c = 0)
    (h63 : n + m ≤ maxLen) (hbytes : (n + m) * bytes ≤ 140737488355328) (hbase : base ≤ w.heap.size)
    (h : ∀ r cap w', w'.ownsRow base e 1 (.slice r (n + m) cap) (n + m) (xs ++ zs.map (.int .i64)) → w.grownBy w' v.ownBlock → wpList P ops Q rest (a.put o.dst (.slice r (n + m) cap)) w') : wpList P ops Q (o :: rest) a w := by
  cases ao with
  | none =>
    have hc := hnil rfl
    have hzs' : zs = [] := by
      rcases hat with h | ⟨b, off, h, _⟩
      · exact h
      · cases h
    subst hzs' hc
    simp at hl
    subst hl
    refine wpList_append_own_none hgd s x t ho base e i 1 ht hi v n xs hs hown hx ?_
    obtain ⟨r, cap, rfl⟩ := owns_slice hown
    have := h r cap w (by simpa using hown) (World.grownBy.refl _ _)
    simpa using this
  | some ad =>
    refine wpList_append_own w hgd s x t ho base e i z 1 bytes ht hi hz hsize hby hzs (by decide) v n xs hs hown ad m c (zs.map (.int .i64)) hx (by simpa using hl) ?_ ?_ h63 hbytes hbase ?_
    · intro j u hj
      have hjl : j < zs.length := by
        have := (List.getElem?_eq_some_iff.1 hj).1
        simpa using this
      obtain ⟨b, off, he, _, hc⟩ := hat.some (by omega)
      simp only [Option.some.injEq] at he
      subst he
      rw [Addr.add_lit, hc j hjl]
      simpa [List.getD, hjl] using hj
    · intro u hu
      obtain ⟨y, _, rfl⟩ := List.mem_map.1 hu
      rfl
    · intro v' w' h2 h3 _
      obtain ⟨r, cap, rfl⟩ := owns_slice h2
      exact h r cap w' h2 h3

/-- Behind 'x.f = <a slice that the call owns>'. -/
theorem RowVar.put {w w1 : World} {R : Nat} {t : TypeId} {base : Nat} {e : TypeId} {a r : Option Addr} {n c k cap : Nat} {zs ys : List Int} (h : RowVar w R t base e a n c zs) (hl : ys.length = k)
    (hown : w1.ownsRow base e 1 (.slice r k cap) k (ys.map (.int .i64))) (hg : w.grownBy w1 (Value.slice a n c).ownBlock) :
    w1.cell? ⟨R, 0, none⟩ = some (.slice a n c) ∧ w1.frozen? ⟨R, 0, none⟩ = false ∧ RowVar (w1.setCell ⟨R, 0, none⟩ (.slice r k cap)) R t base e r k cap ys := by
  have hlt := (Array.getElem?_eq_some_iff.1 h.2.2.1).1
  have hR : w1.heap[R]? = some (.cells #[.slice a n c] t (0, 0)) := by
    rw [hg.block R hlt (fun e' => by have := (h.2.2.2.lt R e'.symm).1; have := h.2.1; omega)]
    exact h.2.2.1
  refine ⟨by rw [cell_of_row w1 R 0 _ t (0, 0) hR]; simp, frozen_of_row w1 R 0 _ t hR, hl, h.2.1, ?_, ?_⟩
  · rw [heap_setCell_same w1 R 0 _ t _ hR]; simp
  · exact ownsRow_setCell_below hown h.2.1 _
theorem RowVar.put_below {w w1 : World} {R : Nat} {t : TypeId} {base : Nat} {e : TypeId} {a : Option Addr} {n c : Nat} {zs : List Int} {B : Nat} {W : World} {v : Value} (h : RowVar w R t base e a n c zs)
    (hg : w.grownBy w1 (Value.slice a n c).ownBlock) (hB : Below B W w) (hBR : B ≤ R) : Below B W (w1.setCell ⟨R, 0, none⟩ v) := by
  have hlt := (Array.getElem?_eq_some_iff.1 h.2.2.1).1
  have hb := h.2.1
  exact (hB.grown hg (by omega) (fun j hj => by have := (h.2.2.2.lt j hj).1; omega)).setCell hBR _

/-- As RowVar, the slice's cells in any block of the call's own but the variable's. -/
def RowVar2 (w : World) (R : Nat) (t : TypeId) (base : Nat) (e : TypeId) (a : Option Addr) (n c : Nat) (zs : List Int) : Prop :=
  zs.length = n ∧ w.heap[R]? = some (.cells #[.slice a n c] t (0, 0)) ∧ w.ownsRow base e 1 (.slice a n c) n (zs.map (.int .i64)) ∧ ∀ k, (Value.slice a n c).ownBlock = some k → k ≠ R

theorem RowVar2.cell {w : World} {R : Nat} {t : TypeId} {base : Nat} {e : TypeId} {a : Option Addr} {n c : Nat} {zs : List Int} (h : RowVar2 w R t base e a n c zs) : w.cell? ⟨R, 0, none⟩ = some (.slice a n c) := by
  rw [cell_of_row w R 0 _ t (0, 0) h.2.1]; simp
theorem RowVar2.frozen {w : World} {R : Nat} {t : TypeId} {base : Nat} {e : TypeId} {a : Option Addr} {n c : Nat} {zs : List Int} (h : RowVar2 w R t base e a n c zs) : w.frozen? ⟨R, 0, none⟩ = false := frozen_of_row w R 0 _ t h.2.1
theorem RowVar2.own {w : World} {R : Nat} {t : TypeId} {base : Nat} {e : TypeId} {a : Option Addr} {n c : Nat} {zs : List Int} (h : RowVar2 w R t base e a n c zs) : w.ownsRow base e 1 (.slice a n c) n (zs.map (.int .i64)) := h.2.2.1
theorem RowVar2.lt {w : World} {R : Nat} {t : TypeId} {base : Nat} {e : TypeId} {a : Option Addr} {n c : Nat} {zs : List Int} (h : RowVar2 w R t base e a n c zs) : R < w.heap.size := (Array.getElem?_eq_some_iff.1 h.2.1).1
theorem RowVar2.below {w w' : World} {R : Nat} {t : TypeId} {base : Nat} {e : TypeId} {a : Option Addr} {n c : Nat} {zs : List Int} (h : RowVar2 w R t base e a n c zs) (hb : Below w.heap.size w w') : RowVar2 w' R t base e a n c zs :=
  ⟨h.1, (hb.block R h.lt).trans h.2.1, owns_below h.2.2.1 hb, h.2.2.2⟩
theorem RowVar2.new {w : World} {t : TypeId} {base : Nat} {e : TypeId} {a : Option Addr} {n c : Nat} {zs : List Int} (hl : zs.length = n) (h : w.ownsRow base e 1 (.slice a n c) n (zs.map (.int .i64))) : RowVar2 (w.alloc (.cells #[.slice a n c] t)) w.heap.size t base e a n c zs :=
  ⟨hl, heap_alloc_new w _, h.alloc _, fun k hk => by have := (h.lt k hk).2; omega⟩

theorem setCell_grown (w : World) (a : Addr) (v : Value) : w.grownBy (w.setCell a v) (some a.block) :=
  ⟨rfl, rfl, rfl, by simp [World.setCell], fun k _ hn => Below.heap_setCell w a v k (fun e => hn (by rw [e]))⟩

theorem RowVar2.pushed {w w1 : World} {R : Nat} {t : TypeId} {base : Nat} {e : TypeId} {a : Option Addr} {n c g cap : Nat} {zs : List Int} {x : Int} {o : Obj} (h : RowVar2 w R t base e a n c zs)
    (hown : w1.ownsRow base e 1 (.slice (some ⟨g, 0, none⟩) (n + 1) cap) (n + 1) (zs.map (.int .i64) ++ [.int .i64 x])) (hg : (w.alloc o).grownBy w1 (Value.slice a n c).ownBlock)
    (hat : (Value.slice a n c).ownBlock = some g ∨ g = w.heap.size + 1) :
    w1.cell? ⟨R, 0, none⟩ = some (.slice a n c) ∧ w1.frozen? ⟨R, 0, none⟩ = false ∧
      RowVar2 (w1.setCell ⟨R, 0, none⟩ (.slice (some ⟨g, 0, none⟩) (n + 1) cap)) R t base e (some ⟨g, 0, none⟩) (n + 1) cap (zs ++ [x]) := by
  have hlt := h.lt
  have hgR : g ≠ R := by
    rcases hat with h' | h'
    · exact h.2.2.2 g h'
    · omega
  have hR : w1.heap[R]? = some (.cells #[.slice a n c] t (0, 0)) := by
    rw [hg.block R (by simp; omega) (fun e' => h.2.2.2 R e'.symm rfl), Below.heap_alloc w o R hlt]
    exact h.2.1
  refine ⟨by rw [cell_of_row w1 R 0 _ t (0, 0) hR]; simp, frozen_of_row w1 R 0 _ t hR, by simp [h.1], ?_, ?_, ?_⟩
  · rw [heap_setCell_same w1 R 0 _ t _ hR]; simp
  · rw [List.map_append]
    exact hown.kept (setCell_grown w1 ⟨R, 0, none⟩ _) (.inr (by simp [Value.ownBlock, hgR]))
  · intro k hk
    simp [Value.ownBlock] at hk
    omega

theorem RowVar2.pushed_below {w w1 : World} {R : Nat} {t : TypeId} {base : Nat} {e : TypeId} {a : Option Addr} {n c : Nat} {zs : List Int} {o : Obj} {B : Nat} {W : World} {v : Value} (h : RowVar2 w R t base e a n c zs)
    (hg : (w.alloc o).grownBy w1 (Value.slice a n c).ownBlock) (hB : Below B W w) (hBR : B ≤ R) (hBb : B ≤ base) : Below B W (w1.setCell ⟨R, 0, none⟩ v) := by
  have hlt := h.lt
  exact ((hB.alloc (by omega) o).grown hg (by simp; omega) (fun j hj => by have := (h.2.2.1.lt j hj).1; omega)).setCell hBR _

end Go.Proofs.Ytociphdhkjoofaa

/- Contracts of columnSet.has, setOf, tellingOf, tellingsOf, closure, implied. -/
namespace Go.Proofs.Ytociphdhkjoofaa
open Go.RowKit

theorem wrap64_small {n : Nat} (h : n < 18446744073709551616) : IntKind.u64.wrap (n : Int) = (n : Int) := by
  simp only [IntKind.wrap, IntKind.bits, IntKind.signed]
  have h1 : (n : Int) % 18446744073709551616 = n := Int.emod_eq_of_lt (by omega) (by omega)
  simpa using h1
theorem two_pow_lt {x : Nat} (h : x < 6) : 2 ^ x < 64 := by
  have : 2 ^ x ≤ 2 ^ 5 := Nat.pow_le_pow_right (by omega) (by omega)
  omega
theorem wrap_pow {x : Int} (h0 : 0 ≤ x) (h1 : x < 6) : IntKind.u64.wrap (2 ^ x.toNat) = ((2 ^ x.toNat : Nat) : Int) := by
  have h2 := two_pow_lt (x := x.toNat) (by omega)
  have := wrap64_small (n := 2 ^ x.toNat) (by omega)
  rw [← this]
  congr 1
theorem or_pow {S : Nat} {x : Int} (hS : S < 64) (h0 : 0 ≤ x) (h1 : x < 6) : bits .or .u64 (S : Int) (IntKind.u64.wrap (2 ^ x.toNat)) = ((S ||| 2 ^ x.toNat : Nat) : Int) := by
  have h2 := two_pow_lt (x := x.toNat) (by omega)
  rw [wrap_pow h0 h1]
  exact u64_or_nat S (2 ^ x.toNat) (by omega) (by omega)
theorem mk_take {zs : List Int} {k : Nat} (h : k < zs.length) : mk (zs.take (k + 1)) = mk (zs.take k) ||| 2 ^ (zs.getD k 0).toNat := by
  rw [List.take_succ_eq_append_getElem h]
  unfold mk
  rw [List.foldl_append]
  simp [List.getD, h]
theorem mk_lt6 {zs : List Int} (h : ∀ x ∈ zs, 0 ≤ x ∧ x < 6) : mk zs < 64 := by
  refine Nat.lt_pow_two_of_testBit (n := 6) _ fun i hi => ?_
  cases hb : (mk zs).testBit i with
  | false => rfl
  | true =>
    have := (h _ ((mk_bit zs (fun x hx => (h x hx).1) i).1 hb)).2
    omega
theorem ris_in {c : Int} {l : List Int} (hc : c ≤ 6) (h : ris c l = true) : ∀ x ∈ l, 0 ≤ x ∧ x < 6 := fun x hx => by have := (risB_mem h).2 x hx; omega

/-- A number without a sign. -/
def Rep.u64 : Rep Nat where
  k := 1
  At _ cs z := cs = [.int .u64 (z : Int)]
  Own _ _ cs z := cs = [.int .u64 (z : Int)]
  len h := by rw [h]; rfl
  below h _ := h
  toAt h := h
  mono h _ := h
  frame h _ := h
  tight h := h
abbrev RTell : Rep (Nat × Nat) := Rep.pair Rep.u64 Rep.u64
abbrev AtT (w : World) (a : Option Addr) (xs : List (Nat × Nat)) : Prop := AtSl RTell w a xs
theorem AtT.row {w : World} {a : Option Addr} {xs : List (Nat × Nat)} (h : AtT w a xs) (hp : 0 < xs.length) : ∃ b off, a = some ⟨b, off, none⟩ ∧ b < w.heap.size ∧ ∀ (i : Nat) (x : Nat × Nat), xs[i]? = some x →
    w.cell? ⟨b, off + i * 2, none⟩ = some (.int .u64 (x.1 : Nat)) ∧ w.cell? ⟨b, off + i * 2 + 1, none⟩ = some (.int .u64 (x.2 : Nat)) := by
  obtain ⟨b, off, rfl, hc⟩ := AtSl.each h hp
  have row : ∀ (i : Nat) (x : Nat × Nat), xs[i]? = some x → w.cell? ⟨b, off + i * 2, none⟩ = some (.int .u64 (x.1 : Nat)) ∧ w.cell? ⟨b, off + i * 2 + 1, none⟩ = some (.int .u64 (x.2 : Nat)) := by
    intro i x hx
    obtain ⟨cs, h1, c1, c2, rfl, e1, e2⟩ := hc i x hx
    obtain rfl : c1 = _ := e1
    obtain rfl : c2 = _ := e2
    exact ⟨h1 0 _ rfl, h1 1 _ rfl⟩
  exact ⟨b, off, rfl, World.block_lt_of_cell? _ _ (row 0 xs[0] (List.getElem?_eq_getElem hp)).1, row⟩

/-- The sets that are laid are small. -/
def Sets (l : List (Nat × Nat)) : Prop := ∀ d ∈ l, d.1 < 64 ∧ d.2 < 64

end Go.Proofs.Ytociphdhkjoofaa

/- Plain: a number put to its place in a rising list, as sets of columns tell it. -/
namespace Go.Proofs.Ytociphdhkjoofaa
open Go.RowKit

/-- A number put to its place, once: ahead of the first that is not less. -/
def lessN (n : Int) : List Int → Nat
  | [] => 0
  | z :: zs => if z < n then lessN n zs + 1 else 0
def insI (l : List Int) (n : Int) : List Int := if n ∈ l then l else l.take (lessN n l) ++ n :: l.drop (lessN n l)
theorem lessN_le (n : Int) : ∀ l, lessN n l ≤ l.length
  | [] => Nat.le_refl _
  | z :: zs => by unfold lessN; split; have := lessN_le n zs; simp; omega; simp
theorem lessN_is (n : Int) : ∀ (l : List Int) (k : Nat), k ≤ l.length → (∀ j, j < k → l.getD j 0 < n) → (k < l.length → ¬ l.getD k 0 < n) → lessN n l = k
  | [], k, h, _, _ => by simp at h; simp [lessN, h]
  | z :: zs, 0, _, _, h => by have := h (by simp); simp at this; unfold lessN; rw [if_neg (by omega)]
  | z :: zs, k + 1, h1, h2, h3 => by
    have h0 := h2 0 (by omega)
    simp at h0
    unfold lessN
    rw [if_pos h0, lessN_is n zs k (by simpa using h1) (fun j hj => by simpa using h2 (j + 1) (by omega)) (fun hk => by simpa using h3 (by simpa using hk))]
theorem insI_yes {l : List Int} {n : Int} (h : n ∈ l) : insI l n = l := if_pos h
theorem insI_no {l : List Int} {n : Int} (h : ¬ n ∈ l) : insI l n = l.take (lessN n l) ++ n :: l.drop (lessN n l) := if_neg h
theorem insI_bl_all : ∀ s : Nat, s < 64 → ∀ n : Nat, n < 6 → insI (bl s) (n : Int) = bl (s ||| 2 ^ n) := by decide +kernel
theorem insI_bl {s : Nat} {n : Int} (hs : s < 64) (h0 : 0 ≤ n) (h1 : n < 6) : insI (bl s) n = bl (s ||| 2 ^ n.toNat) := by
  have := insI_bl_all s hs n.toNat (by omega)
  rw [Int.toNat_of_nonneg h0] at this
  exact this
theorem len_bl_all : ∀ s : Nat, s < 64 → ∀ t : Nat, t < 64 → sb s t = true → (bl t).length = (bl s).length → t = s := by decide +kernel
theorem all_bl {D T : Nat} (hD : D < 64) : (bl D).all (fun k => decide (k ∈ bl T)) = sb D T := by
  cases h : sb D T with
  | true =>
    rw [List.all_eq_true]
    intro k hk
    obtain ⟨i, h1, h2, rfl⟩ := mem_bl.1 hk
    exact decide_eq_true (mem_bl.2 ⟨i, h1, sb_bit h i h2, rfl⟩)
  | false =>
    rw [← Bool.not_eq_true]
    intro h'
    rw [List.all_eq_true] at h'
    have : sb D T = true := sb_of_bits fun i hi => by
      have hi6 : i < 6 := by
        by_cases h6 : i < 6
        · exact h6
        · rw [Nat.testBit_lt_two_pow (Nat.lt_of_lt_of_le hD (by have : 2 ^ 6 ≤ 2 ^ i := Nat.pow_le_pow_right (by omega) (by omega); omega))] at hi; cases hi
      have h9 := of_decide_eq_true (h' (i : Int) (mem_bl.2 ⟨i, hi6, hi, rfl⟩))
      obtain ⟨j, _, h4, h5⟩ := mem_bl.1 h9
      obtain rfl : i = j := by omega
      exact h4
    rw [h] at this; cases this
/-- Putting all of a list, one by one. -/
theorem mk_or (l : List Int) (s : Nat) : l.foldl (fun s k => s ||| 2 ^ k.toNat) s = s ||| mk l := by
  apply Nat.eq_of_testBit_eq
  have key : ∀ (l : List Int) (s i : Nat), (l.foldl (fun s k => s ||| 2 ^ k.toNat) s).testBit i = (s.testBit i || (l.foldl (fun (s : Nat) (k : Int) => s ||| 2 ^ k.toNat) 0).testBit i) := by
    intro l
    induction l with
    | nil => intro s i; simp
    | cons x l ih => intro s i; rw [List.foldl_cons, List.foldl_cons, ih, ih (0 ||| _), Nat.testBit_or, Nat.testBit_or]; simp [Bool.or_assoc]
  intro i
  rw [key, Nat.testBit_or]
  rfl

end Go.Proofs.Ytociphdhkjoofaa
