/- Plain: what a function hands out that passes on some of another one's rows. -/
import Derived.Test.YtmkhdocjabflkaaM2
namespace Go.Proofs.Ytmkhdocjabflkaa

/-- How many have been handed out when k rows have come. -/
def outW (g : WRow → Option WRow) (xs : List WRow) (k : Nat) : Nat := ((xs.take k).filterMap g).length
theorem outW_zero (g : WRow → Option WRow) (xs : List WRow) : outW g xs 0 = 0 := rfl
theorem outW_all (g : WRow → Option WRow) (xs : List WRow) : outW g xs xs.length = (xs.filterMap g).length := by simp [outW]
theorem outW_none {g : WRow → Option WRow} {xs : List WRow} {k : Nat} (h : k < xs.length) (hg : g (wat xs k) = none) : outW g xs (k + 1) = outW g xs k := by
  unfold outW
  rw [wtake_succ xs k h, List.filterMap_append, List.filterMap_cons, hg]
  simp
theorem outW_some {g : WRow → Option WRow} {xs : List WRow} {k : Nat} {v : WRow} (h : k < xs.length) (hg : g (wat xs k) = some v) :
    outW g xs (k + 1) = outW g xs k + 1 ∧ outW g xs k < (xs.filterMap g).length ∧ wat (xs.filterMap g) (outW g xs k) = v := by
  have e : xs.filterMap g = (xs.take k).filterMap g ++ v :: (xs.drop (k + 1)).filterMap g := by
    have h2 : xs = xs.take k ++ wat xs k :: xs.drop (k + 1) := by
      have h3 := (List.take_append_drop k xs).symm
      rw [List.drop_eq_getElem_cons h] at h3
      rw [show wat xs k = xs[k] by simp [wat, List.getD, h]]
      exact h3
    have h4 := congrArg (List.filterMap g) h2
    rw [List.filterMap_append, List.filterMap_cons, hg] at h4
    exact h4
  refine ⟨?_, ?_, ?_⟩
  · unfold outW
    rw [wtake_succ xs k h, List.filterMap_append, List.filterMap_cons, hg]
    simp
  · rw [e]; unfold outW; simp
  · rw [e]; unfold outW
    simp [wat, List.getD]

end Go.Proofs.Ytmkhdocjabflkaa
