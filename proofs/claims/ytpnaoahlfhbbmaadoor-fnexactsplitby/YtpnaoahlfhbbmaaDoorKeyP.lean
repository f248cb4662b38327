/- Plain: all rising lists of so many of so many, in their order. -/
import Derived.Test.YtpnaoahlfhbbmaaDoorCloU
namespace Go.Proofs.YtpnaoahlfhbbmaaDoor
open Go.RowKit

def subsL (c : Nat) : Nat → Nat → List (List Int)
  | 0, _ => [[]]
  | m + 1, f => (List.range (c - f)).flatMap fun i => (subsL c m (f + i + 1)).map (((f + i : Nat) : Int) :: ·)
def subsT (c m f t : Nat) : List (List Int) := (List.range t).flatMap fun i => (subsL c m (f + i + 1)).map (((f + i : Nat) : Int) :: ·)
theorem subsT_zero (c m f : Nat) : subsT c m f 0 = [] := rfl
theorem subsT_succ (c m f t : Nat) : subsT c m f (t + 1) = subsT c m f t ++ (subsL c m (f + t + 1)).map (((f + t : Nat) : Int) :: ·) := by
  unfold subsT; rw [List.range_succ, List.flatMap_append]; simp
theorem subsT_all (c m f : Nat) : subsT c m f (c - f) = subsL c (m + 1) f := rfl
theorem subsL_ok_all : ∀ c : Nat, c < 7 → ∀ m : Nat, m < 7 → ∀ f : Nat, f < 9 → ((subsL c m f).length ≤ 64 ∧ (subsL c m f).all (fun l => decide (l.length ≤ 6)) = true) := by decide +kernel
theorem subsT_ok_all : ∀ c : Nat, c < 7 → ∀ m : Nat, m < 6 → ∀ f : Nat, f < 8 → ∀ t : Nat, t < 7 → (subsT c m f t).length ≤ 64 := by decide +kernel
theorem subsL_row {c m f j : Nat} {zs : List Int} (hc : c ≤ 6) (hm : m ≤ 6) (hf : f ≤ 8) (h : (subsL c m f)[j]? = some zs) : zs.length ≤ 6 := by
  have h9 := (subsL_ok_all c (by omega) m (by omega) f (by omega)).2
  rw [List.all_eq_true] at h9
  simpa using h9 zs (List.mem_of_getElem? h)

end Go.Proofs.YtpnaoahlfhbbmaaDoor
