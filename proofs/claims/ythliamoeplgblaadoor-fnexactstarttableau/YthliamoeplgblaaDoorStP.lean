/- Plain: the tableau that parts begin with. -/
import Derived.Test.YthliamoeplgblaaDoorGpP
import Derived.Test.YthliamoeplgblaaDoorTbP
namespace Go.Proofs.YthliamoeplgblaaDoor

/-- A row's start: 0 in the columns of T, elsewhere a number of its own. -/
def stRow (q T i : Nat) : List Int := (List.range q).map fun k => if T.testBit k then 0 else ((i * 6 + k + 1 : Nat) : Int)
def setN (i : Nat) (l ks : List Int) : List Int := ks.foldl (fun l k => l.set k.toNat ((i : Int) * 6 + k + 1)) l
theorem oth_row : ∀ q : Nat, q < 7 → ∀ T : Nat, T < 64 → oth q T < 64 ∧ (bl (oth q T)).all (fun k => decide (k < (q : Int))) = true := by decide +kernel
theorem setN_all : ∀ i : Nat, i < 8 → ∀ q : Nat, q < 7 → ∀ T : Nat, T < 64 → setN i (List.replicate q 0) (bl (oth q T)) = stRow q T i := by decide +kernel
theorem setN_take {i : Nat} {l ks : List Int} {k : Nat} (h : k < ks.length) : setN i l (ks.take (k + 1)) = (setN i l (ks.take k)).set (ks.getD k 0).toNat ((i : Int) * 6 + ks.getD k 0 + 1) := by
  rw [take_succ_getD ks k h]
  unfold setN
  rw [List.foldl_append]
  rfl
theorem setN_len (i : Nat) (l ks : List Int) : (setN i l ks).length = l.length := by
  unfold setN
  induction ks generalizing l with
  | nil => rfl
  | cons x ks ih => rw [List.foldl_cons, ih]; simp
theorem stRow_len (q T i : Nat) : (stRow q T i).length = q := by simp [stRow]
theorem stRow_take {q T i k : Nat} (h : k < q) : (stRow q T i).take (k + 1) = (stRow q T i).take k ++ [if T.testBit k then 0 else ((i * 6 + k + 1 : Nat) : Int)] := by
  have hl : k < (stRow q T i).length := by rw [stRow_len]; exact h
  rw [List.take_succ_eq_append_getElem hl]
  simp [stRow]
theorem stRow_ok {q T i : Nat} (hq : q ≤ 6) (hi : i < 8) : rowOk (q : Int) (stRow q T i) = true := by
  have hc : ∀ k, k < (stRow q T i).length → 0 ≤ (stRow q T i).getD k 0 ∧ (stRow q T i).getD k 0 ≤ 100000 := fun k hk => by
    have hkq : k < q := by rwa [stRow_len] at hk
    have e : (stRow q T i).getD k 0 = if T.testBit k then 0 else ((i * 6 + k + 1 : Nat) : Int) := by simp [stRow, List.getD, hkq]
    rw [e]
    split
    · omega
    · omega
  exact rowOk_of (good_of (by rw [stRow_len]; exact hq) (fun k hk => by have := hc k hk; omega)) (by rw [stRow_len]) (fun k hk => (hc k hk).1)

/-- The first k rows. -/
def stTo (q : Nat) (parts : List (List Int)) (k : Nat) : List (List Int) := (List.range k).map fun i => stRow q (mk (parts.getD i [])) i
theorem stTo_len (q : Nat) (parts : List (List Int)) (k : Nat) : (stTo q parts k).length = k := by simp [stTo]
theorem stTo_succ {q : Nat} {parts : List (List Int)} {k : Nat} {p : List Int} (h : parts[k]? = some p) : stTo q parts (k + 1) = stTo q parts k ++ [stRow q (mk p) k] := by
  unfold stTo
  rw [List.range_succ, List.map_append]
  simp [List.getD, h]
/-- What StartTableau tells. -/
def stL (parts : List (List Int)) (C : Int) : List (List Int) := if gpB parts C then stTo C.toNat parts parts.length else []
def stC (parts : List (List Int)) (C : Int) : Int := if gpB parts C then C else 0
theorem gpB_C {parts : List (List Int)} {C : Int} (h : gpB parts C = true) : (1 ≤ C ∧ C ≤ 6) ∧ 1 ≤ parts.length ∧ parts.length ≤ 8 := by
  simp only [gpB, Bool.and_eq_true, decide_eq_true_eq] at h; exact ⟨h.1, h.2.1⟩
theorem gpB_part {parts : List (List Int)} {C : Int} (h : gpB parts C = true) {k : Nat} {p : List Int} (hk : parts[k]? = some p) : ris C p = true := by
  simp only [gpB, Bool.and_eq_true, List.all_eq_true] at h
  have := h.2.2.1 p (List.mem_of_getElem? hk)
  simp only [prtOk, Bool.and_eq_true] at this
  exact this.1
theorem stTo_good {parts : List (List Int)} {C : Int} (h : gpB parts C = true) : tbB C (stTo C.toNat parts parts.length) = true := by
  have h1 := gpB_C h
  refine tbB_of h1.1 (by rw [stTo_len]; exact h1.2) (fun z hz => ?_)
  unfold stTo at hz
  obtain ⟨i, hi, rfl⟩ := List.mem_map.1 hz
  have hi8 : i < 8 := by have := List.mem_range.1 hi; omega
  have := stRow_ok (q := C.toNat) (T := mk (parts.getD i [])) (i := i) (by omega) hi8
  rwa [show ((C.toNat : Nat) : Int) = C by omega] at this

end Go.Proofs.YthliamoeplgblaaDoor
