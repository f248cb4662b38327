/- Plain: the variables of each atom. -/
import Derived.Test.YtipgepienagplaaGqP
import Derived.Test.YtipgepienagplaaKrU
namespace Go.Proofs.Ytipgepienagplaa
open Go.RowKit

def edge (a : Atm) : List Int := bl (mk a.2)
def edges (zs : List Atm) : List (List Int) := zs.map edge
def edL (hs : List Int) (zs : List Atm) (ts : List Int) : List (List Int) := if gqB hs zs ts = true then edges zs else []
theorem edL_no {hs : List Int} {zs : List Atm} {ts : List Int} (h : gqB hs zs ts = false) : edL hs zs ts = [] := by unfold edL; rw [h]; rfl
theorem edL_yes {hs : List Int} {zs : List Atm} {ts : List Int} (h : gqB hs zs ts = true) : edL hs zs ts = edges zs := by unfold edL; rw [if_pos h]
theorem gq_qv {hs : List Int} {zs : List Atm} {ts : List Int} (h : gqB hs zs ts = true) : qvB zs = true := by
  simp only [gqB, Bool.and_eq_true] at h
  exact h.1.1.2
theorem gq_ok {hs : List Int} {zs : List Atm} {ts : List Int} (h : gqB hs zs ts = true) : zs.length ≤ 5 ∧ ∀ x ∈ zs, aOk x = true := by
  have h1 := gq_qv h
  simp only [qvB, Bool.and_eq_true, decide_eq_true_eq, List.all_eq_true] at h1
  exact h1
theorem qv_one {x : Atm} (h : aOk x = true) : qvB [x] = true ∧ qvL [x] = edge x := by
  have h1 : qvB [x] = true := by simp [qvB, h]
  refine ⟨h1, ?_⟩
  unfold qvL
  rw [if_pos h1]
  simp [vset, flatV, edge]
theorem edges_take (zs : List Atm) (k : Nat) {x : Atm} (h : zs[k]? = some x) : edges (zs.take (k + 1)) = edges (zs.take k) ++ [edge x] := by
  obtain ⟨hk, rfl⟩ := List.getElem?_eq_some_iff.1 h
  unfold edges
  rw [List.take_succ_eq_append_getElem hk, List.map_append]
  rfl
theorem edges_len (zs : List Atm) : (edges zs).length = zs.length := by simp [edges]
theorem ed_small (hs : List Int) (zs : List Atm) (ts : List Int) : SmK (edL hs zs ts) (edL hs zs ts).length := by
  cases h : gqB hs zs ts with
  | false => rw [edL_no h]; exact smK_of (by simp) (fun x hx => by cases hx)
  | true =>
    rw [edL_yes h]
    refine smK_of (by rw [edges_len]; have := (gq_ok h).1; omega) (fun x hx => ?_)
    obtain ⟨a, _, rfl⟩ := List.mem_map.1 hx
    exact bl_len _

end Go.Proofs.Ytipgepienagplaa
