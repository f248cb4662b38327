/- Plain: what variables a query's atoms have, as a rising list. -/
import Derived.Test.YtipgepienagplaaQrG
import Derived.Test.YtipgepienagplaaInsP
import Derived.Lib.SlicesCompact
namespace Go.Proofs.Ytipgepienagplaa
open Go.RowKit

def vOk (v : Int) : Bool := decide (0 ≤ v) && decide (v < 6)
def aOk (a : Atm) : Bool := decide (a.2.length ≤ 6) && a.2.all vOk
/-- Whether VarsIn tells true. -/
def qvB (z : List Atm) : Bool := decide (z.length ≤ 5) && z.all aOk
/-- All variables, one behind the other; as a set. -/
def flatV (z : List Atm) : List Int := z.flatMap (·.2)
def vset (z : List Atm) : Nat := mk (flatV z)
def qvL (z : List Atm) : List Int := if qvB z = true then bl (vset z) else []

theorem qvL_len (z : List Atm) : (qvL z).length ≤ 6 := by unfold qvL; split; exact bl_len _; simp
theorem vOk_iff {v : Int} : vOk v = true ↔ 0 ≤ v ∧ v < 6 := by simp [vOk]
theorem aOk_in {a : Atm} (h : aOk a = true) : ∀ v ∈ a.2, 0 ≤ v ∧ v < 6 := fun v hv => by
  simp only [aOk, Bool.and_eq_true, List.all_eq_true] at h
  exact vOk_iff.1 (h.2 v hv)
theorem aOk_len {a : Atm} (h : aOk a = true) : a.2.length ≤ 6 := by
  simp only [aOk, Bool.and_eq_true, decide_eq_true_eq] at h
  exact h.1
theorem flat_in {z : List Atm} (h : ∀ a ∈ z, ∀ v ∈ a.2, (0 : Int) ≤ v ∧ v < 6) : ∀ v ∈ flatV z, (0 : Int) ≤ v ∧ v < 6 := fun v hv => by
  obtain ⟨a, ha, hva⟩ := List.mem_flatMap.1 hv
  exact h a ha v hva
theorem flat_take (z : List Atm) (k : Nat) {a : Atm} (h : z[k]? = some a) : flatV (z.take (k + 1)) = flatV (z.take k) ++ a.2 := by
  obtain ⟨hk, hg⟩ := List.getElem?_eq_some_iff.1 h
  unfold flatV
  rw [List.take_succ_eq_append_getElem hk, List.flatMap_append, hg]
  simp
theorem flat_len {z : List Atm} (h : ∀ a ∈ z, a.2.length ≤ 6) : (flatV z).length ≤ 6 * z.length := by
  induction z with
  | nil => simp [flatV]
  | cons a z ih =>
    have h1 := h a (by simp)
    have h2 := ih (fun b hb => h b (by simp [hb]))
    unfold flatV at *
    rw [List.flatMap_cons, List.length_append, List.length_cons]
    omega
theorem mk_append (a b : List Int) : mk (a ++ b) = mk a ||| mk b := by
  unfold mk
  rw [List.foldl_append]
  exact mk_or b _
theorem vset_lt {z : List Atm} (h : ∀ a ∈ z, ∀ v ∈ a.2, (0 : Int) ≤ v ∧ v < 6) : vset z < 64 := mk_lt6 (flat_in h)
theorem mem_bl_mk {l : List Int} (hl : ∀ x ∈ l, 0 ≤ x ∧ x < 6) (x : Int) : x ∈ bl (mk l) ↔ x ∈ l := by
  constructor
  · intro h
    obtain ⟨i, h1, h2, rfl⟩ := mem_bl.1 h
    exact (mk_bit l (fun y hy => (hl y hy).1) i).1 h2
  · intro h
    have h0 := hl x h
    refine mem_bl.2 ⟨x.toNat, by omega, (mk_bit l (fun y hy => (hl y hy).1) _).2 (by rw [Int.toNat_of_nonneg h0.1]; exact h), by omega⟩

theorem ins_take {s : Nat} {zs : List Int} {k : Nat} (hs : s < 64) (hz : ∀ x ∈ zs, 0 ≤ x ∧ x < 6) (hk : k < zs.length) : insI (bl (s ||| mk (zs.take k))) (zs.getD k 0) = bl (s ||| mk (zs.take (k + 1))) := by
  have hx : zs.getD k 0 ∈ zs := by simp [List.getD, hk]
  rw [insI_bl (or_lt64 hs (mk_lt6 fun y hy => hz y (List.mem_of_mem_take hy))) (hz _ hx).1 (hz _ hx).2, mk_take hk, Nat.or_assoc]

/-- A list that does not fall, with each number once. -/
theorem compact_mem (zs : List Int) (x : Int) : x ∈ Lib.compact zs ↔ x ∈ zs := by
  have key : ∀ m, m ≤ zs.length → (x ∈ Lib.compactUpTo zs.toArray m ↔ x ∈ zs.take m) := by
    intro m
    induction m with
    | zero => intro _; simp [Lib.compactUpTo]
    | succ m ih =>
      intro hm
      have ihm := ih (by omega)
      have hd : zs.toArray[m]! = zs[m] := by simp [getElem!_pos, show m < zs.length by omega]
      rw [Lib.compactUpTo_succ, List.mem_append, ihm, List.take_succ_eq_append_getElem (by omega), List.mem_append, List.mem_singleton]
      by_cases hk : Lib.keeps zs.toArray m = true
      · rw [if_pos hk, List.mem_singleton, hd]
      · rw [if_neg hk]
        constructor
        · intro h; rcases h with h | h; exact .inl h; simp at h
        · intro h
          rcases h with h | h
          · exact .inl h
          · left
            have hk' : ¬ (m = 0 ∨ zs.toArray[m]! ≠ zs.toArray[m - 1]!) := by simpa [Lib.keeps] using hk
            have hm0 : m ≠ 0 := fun e => hk' (.inl e)
            have he : zs.toArray[m]! = zs.toArray[m - 1]! := Classical.byContradiction fun e => hk' (.inr e)
            have hd1 : zs.toArray[m - 1]! = zs[m - 1] := by simp [getElem!_pos, show m - 1 < zs.length by omega]
            rw [hd, hd1] at he
            rw [h, he, List.mem_take_iff_getElem]
            exact ⟨m - 1, by omega, rfl⟩
  have h := key zs.length (Nat.le_refl _)
  rw [List.take_length] at h
  exact h
theorem compact_srt {zs : List Int} (hs : zs.Pairwise (· ≤ ·)) : (Lib.compact zs).Pairwise (· < ·) := by
  have key : ∀ m, m ≤ zs.length → (Lib.compactUpTo zs.toArray m).Pairwise (· < ·) ∧ (∀ x ∈ Lib.compactUpTo zs.toArray m, ∀ h : 0 < m, ∀ h2 : m - 1 < zs.length, x ≤ zs[m - 1]) := by
    intro m
    induction m with
    | zero => intro _; simp [Lib.compactUpTo]
    | succ m ih =>
      intro hm
      obtain ⟨i1, i2⟩ := ih (by omega)
      have hd : zs.toArray[m]! = zs[m] := by simp [getElem!_pos, show m < zs.length by omega]
      have hup : ∀ x ∈ Lib.compactUpTo zs.toArray m, x ≤ zs[m] := fun x hx => by
        by_cases h0 : 0 < m
        · have h1 := i2 x hx h0 (by omega)
          have h2 := List.pairwise_iff_getElem.1 hs (m - 1) m (by omega) (by omega) (by omega)
          omega
        · obtain rfl : m = 0 := by omega
          simp [Lib.compactUpTo] at hx
      rw [Lib.compactUpTo_succ]
      constructor
      · rw [List.pairwise_append]
        refine ⟨i1, ?_, ?_⟩
        · split <;> simp
        · intro a ha b hb
          split at hb
          · rename_i hk
            rw [List.mem_singleton, hd] at hb
            subst hb
            have hk' : m = 0 ∨ zs.toArray[m]! ≠ zs.toArray[m - 1]! := by simpa [Lib.keeps] using hk
            rcases hk' with h0 | h0
            · subst h0; simp [Lib.compactUpTo] at ha
            · by_cases hm0 : 0 < m
              · have hd1 : zs.toArray[m - 1]! = zs[m - 1] := by simp [getElem!_pos, show m - 1 < zs.length by omega]
                rw [hd, hd1] at h0
                have h1 := i2 a ha hm0 (by omega)
                have h2 := List.pairwise_iff_getElem.1 hs (m - 1) m (by omega) (by omega) (by omega)
                omega
              · obtain rfl : m = 0 := by omega
                simp [Lib.compactUpTo] at ha
          · simp at hb
      · intro x hx _ h2
        rw [List.mem_append] at hx
        rcases hx with hx | hx
        · exact hup x hx
        · split at hx
          · rw [List.mem_singleton, hd] at hx; subst hx; exact Int.le_refl _
          · simp at hx
  have h := key zs.length (Nat.le_refl _)
  exact h.1
theorem compact_sort {l : List Int} (hl : ∀ x ∈ l, 0 ≤ x ∧ x < 6) : Lib.compact (l.mergeSort fun x y => decide (x ≤ y)) = bl (mk l) := by
  have hs : (l.mergeSort fun x y => decide (x ≤ y)).Pairwise (· ≤ ·) := by
    have := List.pairwise_mergeSort (le := fun x y : Int => decide (x ≤ y)) (fun a b c h1 h2 => by simp at *; omega) (fun a b => by simp; omega) l
    simpa using this
  refine srt_ext (compact_srt hs) (bl_sorted _) (fun x => ?_)
  rw [compact_mem, List.mem_mergeSort, mem_bl_mk hl]

end Go.Proofs.Ytipgepienagplaa
