/- Plain: what the model's loops have put together, row by row. -/
import Derived.Test.YtpnaoahlfhbbmaaGreatM25
namespace Go.Proofs.YtpnaoahlfhbbmaaGreat
open Go.RowKit

theorem fit_len (m part x : List Int) : (fit m part x).length = m.length := fitT_len m part x _
def accF (part : List Int) (M us : List WRow) (k j : Nat) : List WRow := fitL part (M.take k) us ++ (us.take j).filterMap (fitG part (wat M k))
section
variable {M us : List WRow} {part : List Int} {k j : Nat}
theorem accF_zero : accF part M us k 0 = fitL part (M.take k) us := by simp [accF]
theorem accF_some (hj : j < us.length) {v : WRow} (h : fitG part (wat M k) (wat us j) = some v) : putAll [] (accF part M us k (j + 1)) = putW (putAll [] (accF part M us k j)) v.1 v.2 := by
  have e : accF part M us k (j + 1) = accF part M us k j ++ [v] := by
    unfold accF
    rw [wtake_succ us j hj, List.filterMap_append, List.filterMap_cons, h, List.append_assoc]
    rfl
  rw [e, putAll_snoc]
theorem accF_none (hj : j < us.length) (h : fitG part (wat M k) (wat us j) = none) : accF part M us k (j + 1) = accF part M us k j := by
  unfold accF
  rw [wtake_succ us j hj, List.filterMap_append, List.filterMap_cons, h]
  simp
theorem accF_all (hk : k < M.length) : accF part M us k us.length = fitL part (M.take (k + 1)) us := by
  unfold accF fitL
  rw [wtake_succ M k hk, List.flatMap_append, List.take_length]
  simp
theorem fitL_len (M us : List WRow) (part : List Int) : (fitL part M us).length ≤ M.length * us.length := by
  unfold fitL
  induction M with
  | nil => simp
  | cons t M ih =>
    rw [List.flatMap_cons, List.length_append, List.length_cons, Nat.succ_mul]
    have := List.length_filterMap_le (fitG part t) us
    omega
theorem accF_len (h1 : M.length ≤ 60) (h2 : us.length ≤ 60) (hk : k < M.length) : (accF part M us k j).length ≤ 3600 := by
  unfold accF
  rw [List.length_append]
  have a := fitL_len (M.take k) us part
  have b := List.length_filterMap_le (fitG part (wat M k)) (us.take j)
  rw [List.length_take] at a b
  have c : min k M.length * us.length ≤ 59 * 60 := Nat.mul_le_mul (by omega) h2
  omega
theorem fitG_some {m u v : WRow} (h : fitG part m u = some v) : v = (fit m.1 part u.1, 1) := by
  unfold fitG at h
  split at h
  · exact (Option.some.inj h).symm
  · cases h
theorem fitL_row {C : Nat} (hM : ∀ t ∈ M, t.1.length = C) : ∀ t ∈ fitL part M us, t.1.length = C ∧ t.2 = 1 := fun t ht => by
  unfold fitL at ht
  obtain ⟨a, ha, h1⟩ := List.mem_flatMap.1 ht
  obtain ⟨b, _, h2⟩ := List.mem_filterMap.1 h1
  rw [fitG_some h2]
  exact ⟨by rw [fit_len]; exact hM a ha, rfl⟩
theorem accF_row {C : Nat} (hM : ∀ t ∈ M, t.1.length = C) (hk : k < M.length) : ∀ t ∈ accF part M us k j, t.1.length = C ∧ t.2 = 1 := fun t ht => by
  rcases List.mem_append.1 ht with h1 | h1
  · exact fitL_row (fun t ht => hM t (List.mem_of_mem_take ht)) t h1
  · obtain ⟨b, _, hg⟩ := List.mem_filterMap.1 h1
    rw [fitG_some hg]
    exact ⟨by rw [fit_len]; exact hM _ (wat_mem hk), rfl⟩
end
theorem accF_pack {M us : List WRow} {part : List Int} {C k n' : Nat} (h6 : C ≤ 6) (hM : ∀ t ∈ M, t.1.length = C) (hl : M.length ≤ 60) (hu : us.length ≤ 60) (hk : k < M.length) (hn' : us.length = n') :
    ∃ AC : Nat → List WRow, AC 0 = putAll [] (fitL part (M.take k) us) ∧ (∀ j, j < n' → fitOk (wat M k).1 part (wat us j).1 = true → AC (j + 1) = putW (AC j) (fit (wat M k).1 part (wat us j).1) 1) ∧ (∀ j, j < n' → fitOk (wat M k).1 part (wat us j).1 = false → AC (j + 1) = AC j) ∧
      AC n' = putAll [] (fitL part (M.take (k + 1)) us) ∧ ∀ j, (AC j).length ≤ 3600 ∧ ∀ i, i < (AC j).length → (wat (AC j) i).1.length ≤ 6 ∧ -4000000000000000000 ≤ (wat (AC j) i).2 ∧ (wat (AC j) i).2 ≤ 4000000000000000000 := by
  refine ⟨fun j => putAll [] (accF part M us k j), by simp only [accF_zero], fun j hj hv => accF_some (v := (fit (wat M k).1 part (wat us j).1, 1)) (by omega) (by unfold fitG; rw [if_pos hv]), fun j hj hv => by simp only [accF_none (part := part) (M := M) (k := k) (show j < us.length by omega) (by unfold fitG; rw [if_neg (by rw [hv]; simp)])], by subst hn'; simp only [accF_all hk], fun j => ?_⟩
  have hl := accF_len (part := part) (j := j) hl hu hk
  refine ⟨?_, fun i hi => ?_⟩
  · have := putAll_len (accF part M us k j) []
    simp only [List.length_nil] at this
    show (putAll [] (accF part M us k j)).length ≤ 3600
    omega
  · have := at_of_mem (putAll_in' (M := 1) (by omega) (fun t ht => by have := accF_row (part := part) hM hk t ht; exact ⟨by omega, by omega, by omega⟩)) i hi
    refine ⟨this.1, ?_, ?_⟩ <;> (dsimp only; omega)
theorem jm_row (C : Nat) (l : List Tab) (zss : List (List Int)) : ∀ k, ∀ t ∈ jm C l zss k, t.1.length = C
  | 0, t, ht => by
    have : t = (List.replicate C miss, 1) := by simpa [jm] using ht
    rw [this]; simp
  | k + 1, t, ht => by
    have ht' : t ∈ putAll [] (fitL (zss.getD k []) (jm C l zss k) (tat l k).2) := ht
    rcases putAll_rows ht' with ⟨s, hs, _⟩ | ⟨s, hs, e⟩
    · cases hs
    · rw [← e]; exact (fitL_row (jm_row C l zss k) s hs).1
theorem jm_len {C : Nat} {l : List Tab} {zss : List (List Int)} {k : Nat} (h : jok C l zss k = true) : (jm C l zss k).length ≤ 60 := by
  cases k with
  | zero => simp [jm]
  | succ k =>
    rw [jok_succ, Bool.and_eq_true] at h
    exact of_decide_eq_true h.2

end Go.Proofs.YtpnaoahlfhbbmaaGreat
