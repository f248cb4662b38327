/- Plain: statistics that are good. -/
import Derived.Test.YteggbamjfhbmfaaGroundS
import Derived.Test.YteggbamjfhbmfaaRisP
namespace Go.Proofs.Yteggbamjfhbmfaa
open Go.RowKit

def inB (m x : Int) : Bool := decide (1 ≤ x) && decide (x ≤ m)
def wiB (m : Int) (l : List Int) : Bool := l.all (inB m)
theorem wiB_step {m : Int} {zs : List Int} {k : Nat} (h : k < zs.length) : wiB m (zs.drop k) = (inB m (zs.getD k 0) && wiB m (zs.drop (k + 1))) := by
  rw [List.drop_eq_getElem_cons h]
  have e : zs.getD k 0 = zs[k] := by simp [List.getD, h]
  rw [e]; rfl
theorem wiB_done {m : Int} {zs : List Int} {n : Nat} (h : zs.length = n) : wiB m (zs.drop n) = true := by
  rw [List.drop_of_length_le (by omega)]; rfl
/-- Factors from the kth list on: each has as many numbers as lists stand ahead of it. -/
def facB : Nat → List (List Int) → Bool
  | _, [] => true
  | k, f :: r => (decide (f.length = k) && wiB 10 f) && facB (k + 1) r
theorem facB_step {fs : List (List Int)} {k : Nat} {f : List Int} (h : fs[k]? = some f) : facB k (fs.drop k) = ((decide (f.length = k) && wiB 10 f) && facB (k + 1) (fs.drop (k + 1))) := by
  obtain ⟨hk, rfl⟩ := List.getElem?_eq_some_iff.1 h
  rw [List.drop_eq_getElem_cons hk]; rfl
theorem facB_done {fs : List (List Int)} {n : Nat} (h : fs.length = n) : facB n (fs.drop n) = true := by
  rw [List.drop_of_length_le (by omega)]; rfl
/-- Statistics that are good. -/
def gsB (zs : List Int) (fs : List (List Int)) : Bool := ((decide (1 ≤ zs.length) && decide (zs.length ≤ 6)) && decide (fs.length = zs.length)) && (facB 0 fs && wiB 50 zs)
theorem atS_rw {w : World} {a : Option Addr} {zss : List (List Int)} (h : AtS w a zss) {k : Nat} {zs : List Int} (hk : zss[k]? = some zs) :
    ∃ b off a' c', a = some ⟨b, off, none⟩ ∧ w.cell? ⟨b, off + k, none⟩ = some (.slice a' zs.length c') ∧ zs.length ≤ 9223372036854775807 ∧ At w a' zs := by
  obtain ⟨hl, rfl⟩ := List.getElem?_eq_some_iff.1 hk
  rcases h with h | ⟨b, off, rfl, hc⟩
  · rw [h] at hl; simp at hl
  · obtain ⟨a', c', h1, h2, h3⟩ := hc k hl
    have e : zss.getD k [] = zss[k] := by simp [List.getD, hl]
    rw [e] at h1 h2 h3
    exact ⟨b, off, a', c', rfl, h1, h2, h3⟩

end Go.Proofs.Yteggbamjfhbmfaa
