/- Plain: a new snap is within the laws' bound. -/
import Derived.Test.YthfndafgllcelaaNwP
import Derived.Test.YthfndafgllcelaaNapR
namespace Go.Proofs.Ythfndafgllcelaa
open Go.RowKit

theorem wsN_cost (m : Nat) : ∀ k, csumWire (wsN m) k = 0
  | 0 => csumWire_zero _
  | k + 1 => by
    by_cases h : k < m
    · have hx : (wsN m)[k]? = some ([], [], false) := by rw [List.getElem?_replicate]; simp [h]
      rw [csumWire_succ hx, wsN_cost m k]
      rfl
    · have e : csumWire (wsN m) (k + 1) = csumWire (wsN m) k := by
        unfold csumWire szL
        rw [List.take_of_length_le (by simp; omega), List.take_of_length_le (by simp; omega)]
      rw [e, wsN_cost m k]
theorem new_small (zs : List Int) : costSnap ((if gsB (newS zs) then newS zs else ([], [])).1, (if gsB (newS zs) then newS zs else ([], [])).2) ≤ 1048576 := by
  cases h : gsB (newS zs) with
  | false => show costSnap ([], []) ≤ 1048576; decide
  | true =>
    have h2 := gs_parts (ps := psN zs) (ws := wsN (zs.length * zs.length)) rfl rfl h
    have hl : (psN zs).length = zs.length := by simp [psN]
    have hw : (wsN (zs.length * zs.length)).length = zs.length * zs.length := by simp [wsN]
    rw [hl, hw] at h2
    simp only [if_true]
    unfold costSnap
    simp only [newS]
    rw [wsN_cost, hl, hw]
    omega

end Go.Proofs.Ythfndafgllcelaa
