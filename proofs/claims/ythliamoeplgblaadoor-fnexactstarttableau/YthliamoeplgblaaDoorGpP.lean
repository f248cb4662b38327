/- Plain: parts of columns that are good. -/
import Derived.Test.YthliamoeplgblaaDoorCloC
import Derived.Test.YthliamoeplgblaaDoorOthI
namespace Go.Proofs.YthliamoeplgblaaDoor
open Go.RowKit

/-- A list of columns that is not empty. -/
def prtOk (C : Int) (zs : List Int) : Bool := ris C zs && !decide (zs.length = 0)
def uni (zss : List (List Int)) : Nat := zss.foldl (fun s p => s ||| mk p) 0
def gpB (zss : List (List Int)) (C : Int) : Bool := (decide (1 ≤ C) && decide (C ≤ 6)) && ((decide (1 ≤ zss.length) && decide (zss.length ≤ 8)) && (zss.all (prtOk C) && decide (oth C.toNat (uni zss) = 0)))
theorem uni_take {zss : List (List Int)} {k : Nat} {zs : List Int} (h : zss[k]? = some zs) : uni (zss.take (k + 1)) = uni (zss.take k) ||| mk zs := by
  obtain ⟨hk, rfl⟩ := List.getElem?_eq_some_iff.1 h
  unfold uni
  rw [List.take_succ_eq_append_getElem hk, List.foldl_append]; rfl
theorem allPrt_drop {C : Int} {zss : List (List Int)} {k : Nat} {zs : List Int} (h : zss[k]? = some zs) : (zss.drop k).all (prtOk C) = (prtOk C zs && (zss.drop (k + 1)).all (prtOk C)) := by
  obtain ⟨hk, rfl⟩ := List.getElem?_eq_some_iff.1 h
  rw [List.drop_eq_getElem_cons hk, List.all_cons]
theorem insI_len (l : List Int) (x : Int) : (insI l x).length ≤ l.length + 1 := by
  unfold insI
  split
  · omega
  · simp only [List.length_append, List.length_cons, List.length_take, List.length_drop]; omega
theorem oth_full_all : ∀ q : Nat, q < 7 → ∀ s : Nat, s < 2 ^ q → s < 64 → decide ((bl s).length = q) = decide (oth q s = 0) := by decide +kernel
theorem mk_limQ {q : Nat} {l : List Int} (h : ris (q : Int) l = true) : mk l < 2 ^ q := by
  refine Nat.lt_pow_two_of_testBit _ fun i hi => ?_
  cases hb : (mk l).testBit i with
  | false => rfl
  | true =>
    have := ((risB_mem h).2 _ ((mk_bit l (ris_nonneg h) i).1 hb)).2
    omega
theorem tot_take {zss : List (List Int)} {k : Nat} {zs : List Int} (h : zss[k]? = some zs) : tot zss (k + 1) = tot zss k + zs.length := by
  obtain ⟨hk, rfl⟩ := List.getElem?_eq_some_iff.1 h
  rw [tot_succ zss k hk]
  simp [List.getD, hk]
theorem atS_row {w : World} {a : Option Addr} {zss : List (List Int)} (h : AtS w a zss) {k : Nat} {zs : List Int} (hk : zss[k]? = some zs) :
    ∃ b off a' c', a = some ⟨b, off, none⟩ ∧ w.cell? ⟨b, off + k, none⟩ = some (.slice a' zs.length c') ∧ zs.length ≤ 9223372036854775807 ∧ At w a' zs := by
  obtain ⟨hl, rfl⟩ := List.getElem?_eq_some_iff.1 hk
  rcases h with h | ⟨b, off, rfl, hc⟩
  · rw [h] at hl; simp at hl
  · obtain ⟨a', c', h1, h2, h3⟩ := hc k hl
    have e : zss.getD k [] = zss[k] := by simp [List.getD, hl]
    rw [e] at h1 h2 h3
    exact ⟨b, off, a', c', rfl, h1, h2, h3⟩

end Go.Proofs.YthliamoeplgblaaDoor
