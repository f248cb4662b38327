/- Several texts of one proof, in build order: CloI, InsP, QvP, GqP, CloM, CloN, IntsR. -/
import Derived.Test.YteggbamjfhbmfaaM4
import Derived.Deep.AppendLies
import Derived.Deep.LoopGhost
import Derived.WalkMore
import Derived.Lib.SlicesCompact
import Derived.Test.YteggbamjfhbmfaaM3

/- Contracts of columnSet.has, setOf, tellingOf, tellingsOf, closure, implied. -/
namespace Go.Proofs.Yteggbamjfhbmfaa
open Go.RowKit

theorem wrap64_small {n : Nat} (h : n < 18446744073709551616) : IntKind.u64.wrap (n : Int) = (n : Int) := by
  simp only [IntKind.wrap, IntKind.bits, IntKind.signed]
  have h1 : (n : Int) % 18446744073709551616 = n := Int.emod_eq_of_lt (by omega) (by omega)
  simpa using h1
theorem two_pow_lt {x : Nat} (h : x < 6) : 2 ^ x < 64 := by
  have : 2 ^ x ≤ 2 ^ 5 := Nat.pow_le_pow_right (by omega) (by omega)
  omega
theorem wrap_pow {x : Int} (h0 : 0 ≤ x) (h1 : x < 6) : IntKind.u64.wrap (2 ^ x.toNat) = ((2 ^ x.toNat : Nat) : Int) := by
  have h2 := two_pow_lt (x := x.toNat) (by omega)
  have := wrap64_small (n := 2 ^ x.toNat) (by omega)
  rw [← this]
  congr 1
theorem or_pow {S : Nat} {x : Int} (hS : S < 64) (h0 : 0 ≤ x) (h1 : x < 6) : bits .or .u64 (S : Int) (IntKind.u64.wrap (2 ^ x.toNat)) = ((S ||| 2 ^ x.toNat : Nat) : Int) := by
  have h2 := two_pow_lt (x := x.toNat) (by omega)
  rw [wrap_pow h0 h1]
  exact u64_or_nat S (2 ^ x.toNat) (by omega) (by omega)
theorem mk_take {zs : List Int} {k : Nat} (h : k < zs.length) : mk (zs.take (k + 1)) = mk (zs.take k) ||| 2 ^ (zs.getD k 0).toNat := by
  rw [List.take_succ_eq_append_getElem h]
  unfold mk
  rw [List.foldl_append]
  simp [List.getD, h]
theorem mk_lt6 {zs : List Int} (h : ∀ x ∈ zs, 0 ≤ x ∧ x < 6) : mk zs < 64 := by
  refine Nat.lt_pow_two_of_testBit (n := 6) _ fun i hi => ?_
  cases hb : (mk zs).testBit i with
  | false => rfl
  | true =>
    have := (h _ ((mk_bit zs (fun x hx => (h x hx).1) i).1 hb)).2
    omega
theorem ris_in {c : Int} {l : List Int} (hc : c ≤ 6) (h : ris c l = true) : ∀ x ∈ l, 0 ≤ x ∧ x < 6 := fun x hx => by have := (risB_mem h).2 x hx; omega

/-- A number without a sign. -/
def Rep.u64 : Rep Nat where
  k := 1
  At _ cs z := cs = [.int .u64 (z : Int)]
  Own _ _ cs z := cs = [.int .u64 (z : Int)]
  len h := by rw [h]; rfl
  below h _ := h
  toAt h := h
  mono h _ := h
  frame h _ := h
  tight h := h
abbrev RTell : Rep (Nat × Nat) := Rep.pair Rep.u64 Rep.u64
abbrev AtT (w : World) (a : Option Addr) (xs : List (Nat × Nat)) : Prop := AtSl RTell w a xs
theorem AtT.row {w : World} {a : Option Addr} {xs : List (Nat × Nat)} (h : AtT w a xs) (hp : 0 < xs.length) : ∃ b off, a = some ⟨b, off, none⟩ ∧ b < w.heap.size ∧ ∀ (i : Nat) (x : Nat × Nat), xs[i]? = some x →
    w.cell? ⟨b, off + i * 2, none⟩ = some (.int .u64 (x.1 : Nat)) ∧ w.cell? ⟨b, off + i * 2 + 1, none⟩ = some (.int .u64 (x.2 : Nat)) := by
  obtain ⟨b, off, rfl, hc⟩ := AtSl.each h hp
  have row : ∀ (i : Nat) (x : Nat × Nat), xs[i]? = some x → w.cell? ⟨b, off + i * 2, none⟩ = some (.int .u64 (x.1 : Nat)) ∧ w.cell? ⟨b, off + i * 2 + 1, none⟩ = some (.int .u64 (x.2 : Nat)) := by
    intro i x hx
    obtain ⟨cs, h1, c1, c2, rfl, e1, e2⟩ := hc i x hx
    obtain rfl : c1 = _ := e1
    obtain rfl : c2 = _ := e2
    exact ⟨h1 0 _ rfl, h1 1 _ rfl⟩
  exact ⟨b, off, rfl, World.block_lt_of_cell? _ _ (row 0 xs[0] (List.getElem?_eq_getElem hp)).1, row⟩

/-- The sets that are laid are small. -/
def Sets (l : List (Nat × Nat)) : Prop := ∀ d ∈ l, d.1 < 64 ∧ d.2 < 64

end Go.Proofs.Yteggbamjfhbmfaa

/- Plain: a number put to its place in a rising list, as sets of columns tell it. -/
namespace Go.Proofs.Yteggbamjfhbmfaa
open Go.RowKit

/-- A number put to its place, once: ahead of the first that is not less. -/
def lessN (n : Int) : List Int → Nat
  | [] => 0
  | z :: zs => if z < n then lessN n zs + 1 else 0
def insI (l : List Int) (n : Int) : List Int := if n ∈ l then l else l.take (lessN n l) ++ n :: l.drop (lessN n l)
theorem lessN_le (n : Int) : ∀ l, lessN n l ≤ l.length
  | [] => Nat.le_refl _
  | z :: zs => by unfold lessN; split; have := lessN_le n zs; simp; omega; simp
theorem lessN_is (n : Int) : ∀ (l : List Int) (k : Nat), k ≤ l.length → (∀ j, j < k → l.getD j 0 < n) → (k < l.length → ¬ l.getD k 0 < n) → lessN n l = k
  | [], k, h, _, _ => by simp at h; simp [lessN, h]
  | z :: zs, 0, _, _, h => by have := h (by simp); simp at this; unfold lessN; rw [if_neg (by omega)]
  | z :: zs, k + 1, h1, h2, h3 => by
    have h0 := h2 0 (by omega)
    simp at h0
    unfold lessN
    rw [if_pos h0, lessN_is n zs k (by simpa using h1) (fun j hj => by simpa using h2 (j + 1) (by omega)) (fun hk => by simpa using h3 (by simpa using hk))]
theorem insI_yes {l : List Int} {n : Int} (h : n ∈ l) : insI l n = l := if_pos h
theorem insI_no {l : List Int} {n : Int} (h : ¬ n ∈ l) : insI l n = l.take (lessN n l) ++ n :: l.drop (lessN n l) := if_neg h
theorem insI_bl_all : ∀ s : Nat, s < 64 → ∀ n : Nat, n < 6 → insI (bl s) (n : Int) = bl (s ||| 2 ^ n) := by decide +kernel
theorem insI_bl {s : Nat} {n : Int} (hs : s < 64) (h0 : 0 ≤ n) (h1 : n < 6) : insI (bl s) n = bl (s ||| 2 ^ n.toNat) := by
  have := insI_bl_all s hs n.toNat (by omega)
  rw [Int.toNat_of_nonneg h0] at this
  exact this
theorem len_bl_all : ∀ s : Nat, s < 64 → ∀ t : Nat, t < 64 → sb s t = true → (bl t).length = (bl s).length → t = s := by decide +kernel
theorem all_bl {D T : Nat} (hD : D < 64) : (bl D).all (fun k => decide (k ∈ bl T)) = sb D T := by
  cases h : sb D T with
  | true =>
    rw [List.all_eq_true]
    intro k hk
    obtain ⟨i, h1, h2, rfl⟩ := mem_bl.1 hk
    exact decide_eq_true (mem_bl.2 ⟨i, h1, sb_bit h i h2, rfl⟩)
  | false =>
    rw [← Bool.not_eq_true]
    intro h'
    rw [List.all_eq_true] at h'
    have : sb D T = true := sb_of_bits fun i hi => by
      have hi6 : i < 6 := by
        by_cases h6 : i < 6
        · exact h6
        · rw [Nat.testBit_lt_two_pow (Nat.lt_of_lt_of_le hD (by have : 2 ^ 6 ≤ 2 ^ i := Nat.pow_le_pow_right (by omega) (by omega); omega))] at hi; cases hi
      have h9 := of_decide_eq_true (h' (i : Int) (mem_bl.2 ⟨i, hi6, hi, rfl⟩))
      obtain ⟨j, _, h4, h5⟩ := mem_bl.1 h9
      obtain rfl : i = j := by omega
      exact h4
    rw [h] at this; cases this
/-- Putting all of a list, one by one. -/
theorem mk_or (l : List Int) (s : Nat) : l.foldl (fun s k => s ||| 2 ^ k.toNat) s = s ||| mk l := by
  apply Nat.eq_of_testBit_eq
  have key : ∀ (l : List Int) (s i : Nat), (l.foldl (fun s k => s ||| 2 ^ k.toNat) s).testBit i = (s.testBit i || (l.foldl (fun (s : Nat) (k : Int) => s ||| 2 ^ k.toNat) 0).testBit i) := by
    intro l
    induction l with
    | nil => intro s i; simp
    | cons x l ih => intro s i; rw [List.foldl_cons, List.foldl_cons, ih, ih (0 ||| _), Nat.testBit_or, Nat.testBit_or]; simp [Bool.or_assoc]
  intro i
  rw [key, Nat.testBit_or]
  rfl

end Go.Proofs.Yteggbamjfhbmfaa

/- Plain: what variables a query's atoms have, as a rising list. -/
namespace Go.Proofs.Yteggbamjfhbmfaa
open Go.RowKit

def vOk (v : Int) : Bool := decide (0 ≤ v) && decide (v < 6)
def aOk (a : Atm) : Bool := decide (a.2.length ≤ 6) && a.2.all vOk
/-- Whether VarsIn tells true. -/
def qvB (z : List Atm) : Bool := decide (z.length ≤ 5) && z.all aOk
/-- All variables, one behind the other; as a set. -/
def flatV (z : List Atm) : List Int := z.flatMap (·.2)
def vset (z : List Atm) : Nat := mk (flatV z)
def qvL (z : List Atm) : List Int := if qvB z = true then bl (vset z) else []

theorem qvL_len (z : List Atm) : (qvL z).length ≤ 6 := by unfold qvL; split; exact bl_len _; simp
theorem vOk_iff {v : Int} : vOk v = true ↔ 0 ≤ v ∧ v < 6 := by simp [vOk]
theorem aOk_in {a : Atm} (h : aOk a = true) : ∀ v ∈ a.2, 0 ≤ v ∧ v < 6 := fun v hv => by
  simp only [aOk, Bool.and_eq_true, List.all_eq_true] at h
  exact vOk_iff.1 (h.2 v hv)
theorem aOk_len {a : Atm} (h : aOk a = true) : a.2.length ≤ 6 := by
  simp only [aOk, Bool.and_eq_true, decide_eq_true_eq] at h
  exact h.1
theorem flat_in {z : List Atm} (h : ∀ a ∈ z, ∀ v ∈ a.2, (0 : Int) ≤ v ∧ v < 6) : ∀ v ∈ flatV z, (0 : Int) ≤ v ∧ v < 6 := fun v hv => by
  obtain ⟨a, ha, hva⟩ := List.mem_flatMap.1 hv
  exact h a ha v hva
theorem flat_take (z : List Atm) (k : Nat) {a : Atm} (h : z[k]? = some a) : flatV (z.take (k + 1)) = flatV (z.take k) ++ a.2 := by
  obtain ⟨hk, hg⟩ := List.getElem?_eq_some_iff.1 h
  unfold flatV
  rw [List.take_succ_eq_append_getElem hk, List.flatMap_append, hg]
  simp
theorem flat_len {z : List Atm} (h : ∀ a ∈ z, a.2.length ≤ 6) : (flatV z).length ≤ 6 * z.length := by
  induction z with
  | nil => simp [flatV]
  | cons a z ih =>
    have h1 := h a (by simp)
    have h2 := ih (fun b hb => h b (by simp [hb]))
    unfold flatV at *
    rw [List.flatMap_cons, List.length_append, List.length_cons]
    omega
theorem mk_append (a b : List Int) : mk (a ++ b) = mk a ||| mk b := by
  unfold mk
  rw [List.foldl_append]
  exact mk_or b _
theorem vset_lt {z : List Atm} (h : ∀ a ∈ z, ∀ v ∈ a.2, (0 : Int) ≤ v ∧ v < 6) : vset z < 64 := mk_lt6 (flat_in h)
theorem mem_bl_mk {l : List Int} (hl : ∀ x ∈ l, 0 ≤ x ∧ x < 6) (x : Int) : x ∈ bl (mk l) ↔ x ∈ l := by
  constructor
  · intro h
    obtain ⟨i, h1, h2, rfl⟩ := mem_bl.1 h
    exact (mk_bit l (fun y hy => (hl y hy).1) i).1 h2
  · intro h
    have h0 := hl x h
    refine mem_bl.2 ⟨x.toNat, by omega, (mk_bit l (fun y hy => (hl y hy).1) _).2 (by rw [Int.toNat_of_nonneg h0.1]; exact h), by omega⟩

theorem ins_take {s : Nat} {zs : List Int} {k : Nat} (hs : s < 64) (hz : ∀ x ∈ zs, 0 ≤ x ∧ x < 6) (hk : k < zs.length) : insI (bl (s ||| mk (zs.take k))) (zs.getD k 0) = bl (s ||| mk (zs.take (k + 1))) := by
  have hx : zs.getD k 0 ∈ zs := by simp [List.getD, hk]
  rw [insI_bl (or_lt64 hs (mk_lt6 fun y hy => hz y (List.mem_of_mem_take hy))) (hz _ hx).1 (hz _ hx).2, mk_take hk, Nat.or_assoc]

/-- A list that does not fall, with each number once. -/
theorem compact_mem (zs : List Int) (x : Int) : x ∈ Lib.compact zs ↔ x ∈ zs := by
  have key : ∀ m, m ≤ zs.length → (x ∈ Lib.compactUpTo zs.toArray m ↔ x ∈ zs.take m) := by
    intro m
    induction m with
    | zero => intro _; simp [Lib.compactUpTo]
    | succ m ih =>
      intro hm
      have ihm := ih (by omega)
      have hd : zs.toArray[m]! = zs[m] := by simp [getElem!_pos, show m < zs.length by omega]
      rw [Lib.compactUpTo_succ, List.mem_append, ihm, List.take_succ_eq_append_getElem (by omega), List.mem_append, List.mem_singleton]
      by_cases hk : Lib.keeps zs.toArray m = true
      · rw [if_pos hk, List.mem_singleton, hd]
      · rw [if_neg hk]
        constructor
        · intro h; rcases h with h | h; exact .inl h; simp at h
        · intro h
          rcases h with h | h
          · exact .inl h
          · left
            have hk' : ¬ (m = 0 ∨ zs.toArray[m]! ≠ zs.toArray[m - 1]!) := by simpa [Lib.keeps] using hk
            have hm0 : m ≠ 0 := fun e => hk' (.inl e)
            have he : zs.toArray[m]! = zs.toArray[m - 1]! := Classical.byContradiction fun e => hk' (.inr e)
            have hd1 : zs.toArray[m - 1]! = zs[m - 1] := by simp [getElem!_pos, show m - 1 < zs.length by omega]
            rw [hd, hd1] at he
            rw [h, he, List.mem_take_iff_getElem]
            exact ⟨m - 1, by omega, rfl⟩
  have h := key zs.length (Nat.le_refl _)
  rw [List.take_length] at h
  exact h
theorem compact_srt {zs : List Int} (hs : zs.Pairwise (· ≤ ·)) : (Lib.compact zs).Pairwise (· < ·) := by
  have key : ∀ m, m ≤ zs.length → (Lib.compactUpTo zs.toArray m).Pairwise (· < ·) ∧ (∀ x ∈ Lib.compactUpTo zs.toArray m, ∀ h : 0 < m, ∀ h2 : m - 1 < zs.length, x ≤ zs[m - 1]) := by
    intro m
    induction m with
    | zero => intro _; simp [Lib.compactUpTo]
    | succ m ih =>
      intro hm
      obtain ⟨i1, i2⟩ := ih (by omega)
      have hd : zs.toArray[m]! = zs[m] := by simp [getElem!_pos, show m < zs.length by omega]
      have hup : ∀ x ∈ Lib.compactUpTo zs.toArray m, x ≤ zs[m] := fun x hx => by
        by_cases h0 : 0 < m
        · have h1 := i2 x hx h0 (by omega)
          have h2 := List.pairwise_iff_getElem.1 hs (m - 1) m (by omega) (by omega) (by omega)
          omega
        · obtain rfl : m = 0 := by omega
          simp [Lib.compactUpTo] at hx
      rw [Lib.compactUpTo_succ]
      constructor
      · rw [List.pairwise_append]
        refine ⟨i1, ?_, ?_⟩
        · split <;> simp
        · intro a ha b hb
          split at hb
          · rename_i hk
            rw [List.mem_singleton, hd] at hb
            subst hb
            have hk' : m = 0 ∨ zs.toArray[m]! ≠ zs.toArray[m - 1]! := by simpa [Lib.keeps] using hk
            rcases hk' with h0 | h0
            · subst h0; simp [Lib.compactUpTo] at ha
            · by_cases hm0 : 0 < m
              · have hd1 : zs.toArray[m - 1]! = zs[m - 1] := by simp [getElem!_pos, show m - 1 < zs.length by omega]
                rw [hd, hd1] at h0
                have h1 := i2 a ha hm0 (by omega)
                have h2 := List.pairwise_iff_getElem.1 hs (m - 1) m (by omega) (by omega) (by omega)
                omega
              · obtain rfl : m = 0 := by omega
                simp [Lib.compactUpTo] at ha
          · simp at hb
      · intro x hx _ h2
        rw [List.mem_append] at hx
        rcases hx with hx | hx
        · exact hup x hx
        · split at hx
          · rw [List.mem_singleton, hd] at hx; subst hx; exact Int.le_refl _
          · simp at hx
  have h := key zs.length (Nat.le_refl _)
  exact h.1
theorem compact_sort {l : List Int} (hl : ∀ x ∈ l, 0 ≤ x ∧ x < 6) : Lib.compact (l.mergeSort fun x y => decide (x ≤ y)) = bl (mk l) := by
  have hs : (l.mergeSort fun x y => decide (x ≤ y)).Pairwise (· ≤ ·) := by
    have := List.pairwise_mergeSort (le := fun x y : Int => decide (x ≤ y)) (fun a b c h1 h2 => by simp at *; omega) (fun a b => by simp; omega) l
    simpa using this
  refine srt_ext (compact_srt hs) (bl_sorted _) (fun x => ?_)
  rw [compact_mem, List.mem_mergeSort, mem_bl_mk hl]

end Go.Proofs.Yteggbamjfhbmfaa

/- Plain: when a query is good for tables. -/
namespace Go.Proofs.Yteggbamjfhbmfaa
open Go.RowKit

def tabOk (ts : List Int) : Bool := decide (1 ≤ ts.length) && decide (ts.length ≤ 4) && ts.all fun n => decide (1 ≤ n) && decide (n ≤ 3)
/-- An atom is of a table, with as many variables. -/
def atOk (ts : List Int) (a : Atm) : Bool := decide (0 ≤ a.1) && decide (a.1 < ts.length) && decide ((a.2.length : Int) = ts.getD a.1.toNat 0)
def gqB (hs : List Int) (zs : List Atm) (ts : List Int) : Bool :=
  tabOk ts && decide (1 ≤ zs.length) && decide (hs.length ≤ 6) && qvB zs && zs.all (atOk ts) && hs.all fun v => decide (v ∈ bl (vset zs))

theorem tabOk_in {ts : List Int} (h : tabOk ts = true) : ∀ i, i < ts.length → 1 ≤ ts.getD i 0 ∧ ts.getD i 0 ≤ 3 := fun i hi => by
  simp only [tabOk, Bool.and_eq_true, List.all_eq_true, decide_eq_true_eq] at h
  have := h.2 ts[i] (List.getElem_mem hi)
  simpa [List.getD, hi] using this
theorem atOk_len {ts : List Int} {a : Atm} (ht : tabOk ts = true) (h : atOk ts a = true) : a.2.length ≤ 3 := by
  simp only [atOk, Bool.and_eq_true, decide_eq_true_eq] at h
  have := tabOk_in ht a.1.toNat (by omega)
  omega
/-- As the model asks it: atom by atom, that it is of its table, and that its variables are such. -/
theorem gq_model {hs : List Int} {zs : List Atm} {ts : List Int} (ht : tabOk ts = true) (h1 : 1 ≤ zs.length) (h5 : zs.length ≤ 5) (h6 : hs.length ≤ 6) :
    gqB hs zs ts = ((zs.all fun a => atOk ts a && a.2.all vOk) && hs.all fun v => decide (v ∈ bl (vset zs))) := by
  have key : (qvB zs && zs.all (atOk ts)) = zs.all fun a => atOk ts a && a.2.all vOk := by
    cases hx : zs.all fun a => atOk ts a && a.2.all vOk with
    | true =>
      rw [List.all_eq_true] at hx
      have h2 : zs.all (atOk ts) = true := List.all_eq_true.2 fun a ha => (Bool.and_eq_true_iff.1 (hx a ha)).1
      have h3 : zs.all aOk = true := List.all_eq_true.2 fun a ha => by
        obtain ⟨h8, h9⟩ := Bool.and_eq_true_iff.1 (hx a ha)
        have := atOk_len ht h8
        unfold aOk
        rw [h9, decide_eq_true (by omega)]
        rfl
      rw [h2]
      unfold qvB
      rw [h3, decide_eq_true h5]
      rfl
    | false =>
      rw [← Bool.not_eq_true] at hx ⊢
      intro h'
      apply hx
      obtain ⟨h8, h9⟩ := Bool.and_eq_true_iff.1 h'
      rw [List.all_eq_true] at h9 ⊢
      intro a ha
      unfold qvB at h8
      have h7 := List.all_eq_true.1 (Bool.and_eq_true_iff.1 h8).2 a ha
      unfold aOk at h7
      rw [h9 a ha, (Bool.and_eq_true_iff.1 h7).2]
      rfl
  unfold gqB
  rw [ht, decide_eq_true h1, decide_eq_true h6, Bool.and_assoc (true && true && true), key]
  simp
theorem gq_not {hs : List Int} {zs : List Atm} {ts : List Int} (h : tabOk ts = false ∨ ¬ 1 ≤ zs.length ∨ ¬ hs.length ≤ 6 ∨ qvB zs = false ∨ zs.all (atOk ts) = false) : gqB hs zs ts = false := by
  unfold gqB
  rcases h with h | h | h | h | h
  · rw [h]; simp
  · rw [decide_eq_false h]; simp
  · rw [decide_eq_false h]; simp
  · rw [h]; simp
  · rw [h]; simp
theorem gq_yes {hs : List Int} {zs : List Atm} {ts : List Int} (h1 : tabOk ts = true) (h2 : 1 ≤ zs.length) (h3 : hs.length ≤ 6) (h4 : qvB zs = true) (h5 : zs.all (atOk ts) = true) : gqB hs zs ts = hs.all fun v => decide (v ∈ bl (vset zs)) := by
  unfold gqB
  rw [h1, decide_eq_true h2, decide_eq_true h3, h4, h5]
  simp
theorem all_drop_atm {zs : List Atm} {k : Nat} {x : Atm} (f : Atm → Bool) (h : zs[k]? = some x) : (zs.drop k).all f = (f x && (zs.drop (k + 1)).all f) := by
  obtain ⟨h1, h2⟩ := List.getElem?_eq_some_iff.1 h
  rw [List.drop_eq_getElem_cons h1, h2, List.all_cons]
theorem all_drop_int {zs : List Int} {k : Nat} (f : Int → Bool) (h : k < zs.length) : (zs.drop k).all f = (f (zs.getD k 0) && (zs.drop (k + 1)).all f) := by
  rw [List.drop_eq_getElem_cons h, List.all_cons]
  simp [List.getD, h]

end Go.Proofs.Yteggbamjfhbmfaa

/- Contracts of the model's l1Has, l7All, l7Put. -/
namespace Go.Proofs.Yteggbamjfhbmfaa
open Go.RowKit

set_option maxHeartbeats 1000000 in
theorem l1Has_any (a : Option Addr) (n c : Nat) (zs : List Int) (x : Int) (w : World) (hz : zs.length = n) (hn : n ≤ 9223372036854775807) (ha : At w a zs) :
    Calls Try.prog 46 #[.slice a n c, .int .i64 x] w fun e w' => e = .returned (.bool (decide (x ∈ zs))) ∧ w' = w := by
  by_cases h0 : n = 0
  · subst h0
    obtain rfl := List.eq_nil_of_length_eq_zero hz
    go_enter Try.func46, Try.ntmps46
    go_wp2
    refine wp_loop_rounds 1 ?_
    rw [rounds_succ]
    go_wp2
    go_ret
    exact ⟨rfl, rfl⟩
  · obtain ⟨b, off, rfl, hb, hc⟩ := ha.some (by omega)
    clear ha
    go_enter Try.func46, Try.ntmps46
    go_wp2
    go_loopw [9] (fun i wr => ∃ (k : Nat), k ≤ n ∧ i = .int .i64 k ∧ (¬ x ∈ zs.take k) ∧ wr = w) (fun i _ => n - (intOf i).toNat)
    case atStart => exact ⟨0, Nat.zero_le _, rfl, by simp, rfl⟩
    case round =>
      obtain ⟨k, hk, rfl, ht, rfl⟩ := hrel
      by_cases hlt : k < n
      · have hcx : wr.cell? ⟨b, off + k, none⟩ = some (.int .i64 (zs.getD k 0)) := hc k (by omega)
        have hm : zs.getD k 0 ∈ zs := by simp [List.getD, show k < zs.length by omega]
        have hnx : zs.getD k 0 ≠ x → ¬ x ∈ zs.take (k + 1) := fun h => by
          rw [take_succ_getD zs k (by omega)]
          simp only [List.mem_append, List.mem_singleton, not_or]
          exact ⟨ht, fun e => h e.symm⟩
        obtain ⟨y, hy⟩ : ∃ y, y = zs.getD k 0 := ⟨_, rfl⟩
        rw [← hy] at hcx hm hnx
        have HM := Hid.mk hm
        have HN := Hid.mk hnx
        clear hc hm hnx hy ht
        by_cases he : y = x
        · subst he
          go_wp2
          go_ret
          exact ⟨by rw [decide_eq_true HM.out]; rfl, rfl⟩
        · go_wp2
          go_roundw
          case rel => exact ⟨k + 1, by omega, by go_num, HN.out he, trivial⟩
          case measure => simp [intOf]; omega
      · rw [List.take_of_length_le (by omega)] at ht
        have HT := Hid.mk ht
        clear ht
        go_wp2
        go_ret
        exact ⟨by rw [decide_eq_false HT.out]; rfl, rfl⟩

set_option maxHeartbeats 1000000 in
theorem l7All_any (a : Option Addr) (n c : Nat) (zs : List Int) (a' : Option Addr) (n' c' : Nat) (ys : List Int) (w : World) (hz : zs.length = n) (hn : n ≤ 9223372036854775807) (ha : At w a zs) (hz' : ys.length = n') (hn' : n' ≤ 9223372036854775807) (ha' : At w a' ys) :
    Calls Try.prog 47 #[.slice a n c, .slice a' n' c'] w fun e w' => e = .returned (.bool (ys.all fun k => decide (k ∈ zs))) ∧ w' = w := by
  have HC := Hid.mk (fun x => l1Has_any a n c zs x w hz hn ha)
  clear hz hn ha
  by_cases h0 : n' = 0
  · subst h0
    obtain rfl := List.eq_nil_of_length_eq_zero hz'
    go_enter Try.func47, Try.ntmps47
    go_wp2
    refine wp_loop_rounds 1 ?_
    rw [rounds_succ]
    go_wp2
    go_ret
    exact ⟨rfl, rfl⟩
  · obtain ⟨b, off, rfl, hb, hc⟩ := ha'.some (by omega)
    clear ha'
    go_enter Try.func47, Try.ntmps47
    go_wp2
    go_loopw [9] (fun i wr => ∃ (k : Nat), k ≤ n' ∧ i = .int .i64 k ∧ (ys.all fun k => decide (k ∈ zs)) = ((ys.drop k).all fun k => decide (k ∈ zs)) ∧ wr = w) (fun i _ => n' - (intOf i).toNat)
    case atStart => exact ⟨0, Nat.zero_le _, rfl, rfl, rfl⟩
    case round =>
      obtain ⟨k, hk, rfl, ht, rfl⟩ := hrel
      by_cases hlt : k < n'
      · have hcx : wr.cell? ⟨b, off + k, none⟩ = some (.int .i64 (ys.getD k 0)) := hc k (by omega)
        have hd : ys.drop k = ys.getD k 0 :: ys.drop (k + 1) := by rw [List.drop_eq_getElem_cons (by omega)]; simp [List.getD, show k < ys.length by omega]
        rw [hd] at ht
        obtain ⟨y, hy⟩ : ∃ y, y = ys.getD k 0 := ⟨_, rfl⟩
        rw [← hy, List.all_cons] at ht
        rw [← hy] at hcx
        have HT := Hid.mk ht
        clear hc hy ht hd
        go_wp2_with fail
        refine (HC.out y).mono ?_
        rintro e w1 ⟨rfl, rfl⟩
        cases hr : decide (y ∈ zs) with
        | false =>
          go_wp2
          go_ret
          exact ⟨by rw [HT.out, hr]; rfl, rfl⟩
        | true =>
          go_wp2
          go_roundw
          case rel => exact ⟨k + 1, by omega, by go_num, by rw [HT.out, hr]; rfl, trivial⟩
          case measure => simp [intOf]; omega
      · rw [List.drop_of_length_le (by omega)] at ht
        have HT := Hid.mk ht
        clear ht
        go_wp2
        go_ret
        exact ⟨by rw [HT.out]; rfl, rfl⟩

end Go.Proofs.Yteggbamjfhbmfaa

/- Contracts of the model's l7Put and l7Closure. -/
namespace Go.Proofs.Yteggbamjfhbmfaa
open Go.RowKit

theorem own_cap {w : World} {base : Nat} {e : TypeId} {size : Nat} {a : Option Addr} {n c : Nat} {xs : List Value} (h : w.ownsRow base e size (.slice a n c) n xs) : n ≤ c := by
  rcases h.2 with ⟨h', h0⟩ | ⟨g, cap, cur, h', _, _, h1, _⟩
  · simp at h'; omega
  · simp at h'; omega
theorem at_take {w : World} {b off : Nat} {zs : List Int} (k : Nat) (h : At w (some ⟨b, off, none⟩) zs) : At w (some ⟨b, off, none⟩) (zs.take k) := by
  rcases h with rfl | ⟨b', off', e, hc⟩
  · exact .inl (by simp)
  · refine .inr ⟨b', off', e, fun i hi => ?_⟩
    have hi' : i < zs.length := by have := List.length_take (i := k) (l := zs); omega
    have hik : i < k := by have := List.length_take (i := k) (l := zs); omega
    rw [hc i hi']
    simp [List.getD, hik]
theorem at_drop {w : World} {b off : Nat} {zs : List Int} (k : Nat) (h : At w (some ⟨b, off, none⟩) zs) : At w (some ⟨b, off + k, none⟩) (zs.drop k) := by
  rcases h with rfl | ⟨b', off', e, hc⟩
  · exact .inl (by simp)
  · simp only [Option.some.injEq, Addr.mk.injEq, and_true] at e
    obtain ⟨rfl, rfl⟩ := e
    refine .inr ⟨b, off + k, rfl, fun i hi => ?_⟩
    have hi' : k + i < zs.length := by simp at hi; omega
    rw [Nat.add_assoc, hc (k + i) hi']
    simp [List.getD]

set_option maxRecDepth 100000 in
set_option maxHeartbeats 4000000 in
theorem l7Put_any (B : Nat) (a : Option Addr) (n c : Nat) (zs : List Int) (x : Int) (w : World) (hz : zs.length = n) (hn : n ≤ 2097152) (hB : B ≤ w.heap.size) (ho : w.ownsRow B 3 1 (.slice a n c) n (zs.map (.int .i64))) :
    Calls Try.prog 63 #[.slice a n c, .int .i64 x] w fun e w' => ∃ r m d, e = .returned (.slice r m d) ∧ (insI zs x).length = m ∧ w'.ownsRow B 3 1 (.slice r m d) m ((insI zs x).map (.int .i64)) ∧ Below w.heap.size w w' := by
  obtain ⟨i0, hi, hz0, hz1, hz2⟩ := info_parts Try.infoInt
  have hat : At w a zs := At.owned ho
  have HC := Hid.mk (l1Has_any a n c zs x w hz (by omega) hat)
  by_cases hx : x ∈ zs
  · have hd : decide (x ∈ zs) = true := decide_eq_true hx
    rw [insI_yes hx]
    rw [hd] at HC
    have HO := Hid.mk ho
    have HZ := Hid.mk hz
    clear hat ho hz hx hd
    go_enter Try.func63, Try.ntmps63
    go_wp2_with fail
    refine HC.out.mono ?_
    rintro e w1 ⟨rfl, rfl⟩
    go_wp2
    go_ret
    exact ⟨a, n, c, rfl, HZ.out, HO.out, Below.refl _ _⟩
  · have hd : decide (x ∈ zs) = false := decide_eq_false hx
    rw [insI_no hx]
    rw [hd] at HC
    rcases ho.2 with ⟨hv, h0⟩ | ⟨g, cap, cur, hv, hbg, _⟩
    · simp only [Value.slice.injEq] at hv
      obtain ⟨rfl, _, rfl⟩ := hv
      subst h0
      obtain rfl := List.eq_nil_of_length_eq_zero hz
      clear hat ho hx hd
      go_enter Try.func63, Try.ntmps63
      go_wp2_with fail
      refine HC.out.mono ?_
      rintro e w1 ⟨rfl, rfl⟩
      go_wp2_with fail
      refine wp_loop_rounds 1 ?_
      rw [rounds_succ]
      go_wp2_with (at_builtin; refine wpList_append_all rfl (.tmp 25) (.tmp 28) 22 rfl w1.heap.size 3 i0 (.int .i64 0) 8 Try.underlying22 hi hz0 hz1 hz2 rfl (.slice none 0 0) 0 [] rfl (World.ownsRow_nil _ _ _ _) none 0 0 [] rfl rfl (.inl rfl) (fun _ => rfl) (by unfold maxLen; omega) (by omega) (Nat.le_refl _) ?_)
      intro r2 d2 w2 ho2 hg2
      have B2 : Below w1.heap.size w1 w2 := (Below.refl _ _).grown hg2 (Nat.le_refl _) (fun j hj => by cases hj)
      have HO2 := Hid.mk ho2
      have z2 := B2.size
      clear ho2 hg2
      go_wp2_with (at_builtin; refine wpList_append_lies _ rfl (.tmp 30) (.tmp 32) 22 rfl w1.heap.size 3 i0 (.int .i64 0) 1 8 Try.underlying22 hi hz0 hz1 hz2 rfl (by decide) _ _ _ rfl (HO2.out.alloc _) ⟨w2.heap.size, 0, none⟩ 1 1 [.int .i64 x] rfl rfl (news_at w2 _ _) (by intro u hu; simp at hu; subst hu; rfl) (by decide) (by unfold maxLen; omega) (by omega) (by simp; omega) (w2.heap.size + 1) (by simp) ?_)
      intro g3 cap3 w3 ho3 hg3 hat3 hlt3
      have B3 : Below w1.heap.size w1 w3 := (B2.alloc z2 _).grown hg3 (by simp; omega) (fun j hj => (HO2.out.lt j hj).1)
      have HO3 := Hid.mk ho3
      have z3 := B3.size
      clear ho3 hg3 hat3 HO2
      go_wp2_with (at_builtin; refine wpList_append_all rfl (.tmp 34) (.tmp 37) 22 rfl w1.heap.size 3 i0 (.int .i64 0) 8 Try.underlying22 hi hz0 hz1 hz2 rfl _ _ _ rfl HO3.out none 0 0 [] rfl rfl (.inl rfl) (fun _ => rfl) (by unfold maxLen; omega) (by omega) z3 ?_)
      intro r4 d4 w4 ho4 hg4
      have B4 : Below w1.heap.size w1 w4 := B3.grown hg4 z3 (fun j hj => (HO3.out.lt j hj).1)
      have HO4 := Hid.mk ho4
      clear ho4 hg4 HO3
      go_wp2
      go_ret
      exact ⟨r4, 1, d4, rfl, rfl, owns_mono HO4.out hB, B4⟩
    · simp only [Value.slice.injEq, true_and] at hv
      obtain ⟨rfl, rfl⟩ := hv
      have hcap := own_cap ho
      have hcx : ∀ k, k < n → w.cell? ⟨g, k, none⟩ = some (.int .i64 (zs.getD k 0)) := fun k hk => by
        rw [ho.cellAt k (by omega)]
        simp [List.getD, show k < zs.length by omega]
      have HAT := Hid.mk hat
      have HO := Hid.mk ho
      have HZ := Hid.mk hz
      have HCX := Hid.mk hcx
      clear hat ho hx hd hcx
      go_enter Try.func63, Try.ntmps63
      go_wp2_with fail
      refine HC.out.mono ?_
      rintro e w1 ⟨rfl, rfl⟩
      go_wp2_with fail
      go_loopw [5] (fun i wr => ∃ (k : Nat), k ≤ n ∧ i = .int .i64 k ∧ (∀ j, j < k → zs.getD j 0 < x) ∧ wr = w1) (fun i _ => n - (intOf i).toNat)
      case atStart => exact ⟨0, Nat.zero_le _, rfl, fun j h => by omega, rfl⟩
      case round =>
        obtain ⟨k, hk, rfl, hle, rfl⟩ := hrel
        have HL := Hid.mk hle
        clear hle
        have stop : (k < n → ¬ zs.getD k 0 < x) → Hid (lessN x zs = k) := fun h => Hid.mk (lessN_is x zs k (by omega) HL.out (fun hk => h (by omega)))
        by_cases hlt : k < n
        · have hc := HCX.out k hlt
          obtain ⟨y, hy⟩ : ∃ y, y = zs.getD k 0 := ⟨_, rfl⟩
          have hnx : y < x → ∀ j, j < k + 1 → zs.getD j 0 < x := fun h j hj => by
            by_cases hjk : j < k
            · exact HL.out j hjk
            · obtain rfl : j = k := by omega
              rw [← hy]; exact h
          rw [← hy] at hc stop
          have HN := Hid.mk hnx
          clear hy hnx
          by_cases hyx : y < x
          · clear stop
            go_wp2
            go_roundw
            case rel => exact ⟨k + 1, by omega, by go_num, HN.out hyx, trivial⟩
            case measure => simp [intOf]; omega
          · have HS := stop (fun _ => hyx)
            clear stop
            have hkn : k ≤ n := hk
            have HTK : Hid ((zs.take k).length = k) := by show _ = _; rw [List.length_take, HZ.out]; omega
            have HDK : Hid ((zs.drop k).length = n - k) := by show _ = _; rw [List.length_drop, HZ.out]
            go_wp2_with (at_builtin; refine wpList_append_all rfl (.tmp 25) (.tmp 28) 22 rfl wr.heap.size 3 i0 (.int .i64 0) 8 Try.underlying22 hi hz0 hz1 hz2 rfl (.slice none 0 0) 0 [] rfl (World.ownsRow_nil _ _ _ _) (some ⟨g, 0, none⟩) k c (zs.take k) (by simp [Act.eval]) HTK.out (at_take k HAT.out) (fun h => by cases h) (by unfold maxLen; omega) (by omega) (Nat.le_refl _) ?_)
            intro r2 d2 w2 ho2 hg2
            have B2 : Below wr.heap.size wr w2 := (Below.refl _ _).grown hg2 (Nat.le_refl _) (fun j hj => by cases hj)
            have HO2 := Hid.mk ho2
            have z2 := B2.size
            clear ho2 hg2
            go_wp2_with (at_builtin; refine wpList_append_lies _ rfl (.tmp 30) (.tmp 32) 22 rfl wr.heap.size 3 i0 (.int .i64 0) 1 8 Try.underlying22 hi hz0 hz1 hz2 rfl (by decide) _ _ _ rfl (HO2.out.alloc _) ⟨w2.heap.size, 0, none⟩ 1 1 [.int .i64 x] rfl rfl (news_at w2 _ _) (by intro u hu; simp at hu; subst hu; rfl) (by decide) (by unfold maxLen; omega) (by omega) (by simp; omega) (w2.heap.size + 1) (by simp) ?_)
            intro g3 cap3 w3 ho3 hg3 hat3 hlt3
            have B3 : Below wr.heap.size wr w3 := (B2.alloc z2 _).grown hg3 (by simp; omega) (fun j hj => (HO2.out.lt j hj).1)
            have HO3 := Hid.mk ho3
            have z3 := B3.size
            clear ho3 hg3 hat3 HO2
            go_wp2_with (at_builtin; refine wpList_append_all rfl (.tmp 34) (.tmp 37) 22 rfl wr.heap.size 3 i0 (.int .i64 0) 8 Try.underlying22 hi hz0 hz1 hz2 rfl _ _ _ rfl HO3.out (some ⟨g, 0 + k, none⟩) (n - k) (c - k) (zs.drop k) (by simp [Act.eval]) HDK.out (at_drop k (At.below HAT.out B3)) (fun h => by cases h) (by unfold maxLen; omega) (by omega) z3 ?_)
            intro r4 d4 w4 ho4 hg4
            have B4 : Below wr.heap.size wr w4 := B3.grown hg4 z3 (fun j hj => (HO3.out.lt j hj).1)
            have HO4 := Hid.mk ho4
            clear ho4 hg4 HO3
            go_wp2
            go_ret
            refine ⟨r4, k + 1 + (n - k), d4, rfl, ?_, ?_, B4⟩
            · rw [HS.out, List.length_append, List.length_cons, HTK.out, HDK.out]; omega
            · have h9 := owns_mono HO4.out hB
              rw [HS.out, List.map_append, List.map_cons]
              simpa using h9
        · have HS := stop (fun h => absurd h hlt)
          clear stop
          by_cases hck : c = k
          · have hck' : k = c := hck.symm
            subst hck'
            have hnk : k = n := by omega
            subst hnk
            have hkn : k ≤ k := hk
            have HTK : Hid ((zs.take k).length = k) := by show _ = _; rw [List.length_take, HZ.out]; omega
            have HDK : Hid ((zs.drop k).length = 0) := by show _ = _; rw [List.length_drop, HZ.out]; omega
            go_wp2_with (at_builtin; refine wpList_append_all rfl (.tmp 25) (.tmp 28) 22 rfl wr.heap.size 3 i0 (.int .i64 0) 8 Try.underlying22 hi hz0 hz1 hz2 rfl (.slice none 0 0) 0 [] rfl (World.ownsRow_nil _ _ _ _) (some ⟨g, 0, none⟩) k k (zs.take k) (by simp [Act.eval]) HTK.out (at_take k HAT.out) (fun h => by cases h) (by unfold maxLen; omega) (by omega) (Nat.le_refl _) ?_)
            intro r2 d2 w2 ho2 hg2
            have B2 : Below wr.heap.size wr w2 := (Below.refl _ _).grown hg2 (Nat.le_refl _) (fun j hj => by cases hj)
            have HO2 := Hid.mk ho2
            have z2 := B2.size
            clear ho2 hg2
            go_wp2_with (at_builtin; refine wpList_append_lies _ rfl (.tmp 30) (.tmp 32) 22 rfl wr.heap.size 3 i0 (.int .i64 0) 1 8 Try.underlying22 hi hz0 hz1 hz2 rfl (by decide) _ _ _ rfl (HO2.out.alloc _) ⟨w2.heap.size, 0, none⟩ 1 1 [.int .i64 x] rfl rfl (news_at w2 _ _) (by intro u hu; simp at hu; subst hu; rfl) (by decide) (by unfold maxLen; omega) (by omega) (by simp; omega) (w2.heap.size + 1) (by simp) ?_)
            intro g3 cap3 w3 ho3 hg3 hat3 hlt3
            have B3 : Below wr.heap.size wr w3 := (B2.alloc z2 _).grown hg3 (by simp; omega) (fun j hj => (HO2.out.lt j hj).1)
            have HO3 := Hid.mk ho3
            have z3 := B3.size
            clear ho3 hg3 hat3 HO2
            go_wp2_with (at_builtin; refine wpList_append_all rfl (.tmp 34) (.tmp 37) 22 rfl wr.heap.size 3 i0 (.int .i64 0) 8 Try.underlying22 hi hz0 hz1 hz2 rfl _ _ _ rfl HO3.out (some ⟨g, 0, none⟩) 0 0 (zs.drop k) (by simp [Act.eval]) HDK.out (.inl (List.drop_of_length_le (by have := HZ.out; omega))) (fun h => by cases h) (by unfold maxLen; omega) (by omega) z3 ?_)
            intro r4 d4 w4 ho4 hg4
            have B4 : Below wr.heap.size wr w4 := B3.grown hg4 z3 (fun j hj => (HO3.out.lt j hj).1)
            have HO4 := Hid.mk ho4
            clear ho4 hg4 HO3
            go_wp2
            go_ret
            refine ⟨r4, k + 1, d4, rfl, ?_, ?_, B4⟩
            · rw [HS.out, List.length_append, List.length_cons, HTK.out, HDK.out]
            · have h9 := owns_mono HO4.out hB
              rw [HS.out, List.map_append, List.map_cons]
              simpa using h9
          · skip
            have hkn : k ≤ n := hk
            have HTK : Hid ((zs.take k).length = k) := by show _ = _; rw [List.length_take, HZ.out]; omega
            have HDK : Hid ((zs.drop k).length = n - k) := by show _ = _; rw [List.length_drop, HZ.out]
            go_wp2_with (at_builtin; refine wpList_append_all rfl (.tmp 25) (.tmp 28) 22 rfl wr.heap.size 3 i0 (.int .i64 0) 8 Try.underlying22 hi hz0 hz1 hz2 rfl (.slice none 0 0) 0 [] rfl (World.ownsRow_nil _ _ _ _) (some ⟨g, 0, none⟩) k c (zs.take k) (by simp [Act.eval]) HTK.out (at_take k HAT.out) (fun h => by cases h) (by unfold maxLen; omega) (by omega) (Nat.le_refl _) ?_)
            intro r2 d2 w2 ho2 hg2
            have B2 : Below wr.heap.size wr w2 := (Below.refl _ _).grown hg2 (Nat.le_refl _) (fun j hj => by cases hj)
            have HO2 := Hid.mk ho2
            have z2 := B2.size
            clear ho2 hg2
            go_wp2_with (at_builtin; refine wpList_append_lies _ rfl (.tmp 30) (.tmp 32) 22 rfl wr.heap.size 3 i0 (.int .i64 0) 1 8 Try.underlying22 hi hz0 hz1 hz2 rfl (by decide) _ _ _ rfl (HO2.out.alloc _) ⟨w2.heap.size, 0, none⟩ 1 1 [.int .i64 x] rfl rfl (news_at w2 _ _) (by intro u hu; simp at hu; subst hu; rfl) (by decide) (by unfold maxLen; omega) (by omega) (by simp; omega) (w2.heap.size + 1) (by simp) ?_)
            intro g3 cap3 w3 ho3 hg3 hat3 hlt3
            have B3 : Below wr.heap.size wr w3 := (B2.alloc z2 _).grown hg3 (by simp; omega) (fun j hj => (HO2.out.lt j hj).1)
            have HO3 := Hid.mk ho3
            have z3 := B3.size
            clear ho3 hg3 hat3 HO2
            go_wp2_with (at_builtin; refine wpList_append_all rfl (.tmp 34) (.tmp 37) 22 rfl wr.heap.size 3 i0 (.int .i64 0) 8 Try.underlying22 hi hz0 hz1 hz2 rfl _ _ _ rfl HO3.out (some ⟨g, 0 + k, none⟩) (n - k) (c - k) (zs.drop k) (by simp [Act.eval]) HDK.out (at_drop k (At.below HAT.out B3)) (fun h => by cases h) (by unfold maxLen; omega) (by omega) z3 ?_)
            intro r4 d4 w4 ho4 hg4
            have B4 : Below wr.heap.size wr w4 := B3.grown hg4 z3 (fun j hj => (HO3.out.lt j hj).1)
            have HO4 := Hid.mk ho4
            clear ho4 hg4 HO3
            go_wp2
            go_ret
            refine ⟨r4, k + 1 + (n - k), d4, rfl, ?_, ?_, B4⟩
            · rw [HS.out, List.length_append, List.length_cons, HTK.out, HDK.out]; omega
            · have h9 := owns_mono HO4.out hB
              rw [HS.out, List.map_append, List.map_cons]
              simpa using h9

end Go.Proofs.Yteggbamjfhbmfaa

/- Lists of numbers that are answered, held as the laws marked them. -/
namespace Go.Proofs.Yteggbamjfhbmfaa
open Go.RowKit

def IntsRet (e : Ending) (w' : World) (lo : Nat) (ok : Bool) (zs : List Int) : Prop := ∃ r m d, e = .returned (.tuple #[.slice r m d, .bool ok]) ∧ zs.length = m ∧ w'.ownsRow lo 3 1 (.slice r m d) m (zs.map (.int .i64))
theorem ints_at {w : World} {F : Nat → Prop} {a : Option Addr} {n c : Nat} {zs : List Int} (h : RInts.Own w F [.slice a n c] zs) : At w a zs := (RInts.at_iff.1 (RInts.toAt h)).2.2.1
theorem Off.toBelow {lo hi B : Nat} {a b : World} (h : Off (From lo hi) a b) (hlo : B ≤ lo) (hB : B ≤ a.heap.size) : Below B a b := ⟨h.os, h.tape, h.output, h.size, fun k hk => h.block k (by omega) (fun e => by have := e.1; omega)⟩

end Go.Proofs.Yteggbamjfhbmfaa
