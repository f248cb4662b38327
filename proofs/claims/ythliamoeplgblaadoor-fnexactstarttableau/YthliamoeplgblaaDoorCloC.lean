/- Contract of the model's l7Closure. -/
import Derived.Test.YthliamoeplgblaaDoorCloN
import Derived.Test.YthliamoeplgblaaDoorCloS
namespace Go.Proofs.YthliamoeplgblaaDoor
open Go.RowKit

theorem owns_void (w : World) (e : TypeId) (size : Nat) : (w.alloc (.cells #[] e)).ownsRow w.heap.size e size (.slice (some ⟨w.heap.size, 0, none⟩) 0 0) 0 [] :=
  ⟨by simp, .inr ⟨w.heap.size, 0, #[], rfl, Nat.le_refl _, heap_alloc_new w _, by simp, by simp, by simp, by simp⟩⟩

/-- A rising list of columns: it is told by its set. -/
structure Told (l : List Int) : Prop where
  intro ::
  is : bl (mk l) = l
  lt : mk l < 64
theorem Told.of {c : Int} {l : List Int} (hc : c ≤ 6) (h : ris c l = true) : Told l := ⟨bl_mk hc h, mk_lt hc h⟩
theorem Told.in {l : List Int} (h : Told l) : ∀ x ∈ l, 0 ≤ x ∧ x < 6 := fun x hx => bl_in (s := mk l) (by rw [h.is]; exact hx)
theorem Told.len {l : List Int} (h : Told l) : l.length ≤ 6 := by have := bl_len (mk l); rw [h.is] at this; exact this
def Tolds (xs : List Dep) : Prop := ∀ d ∈ xs, Told d.1 ∧ Told d.2
theorem Tolds.of {xs : List Dep} {C : Int} (h : goodDeps xs C = true) : Tolds xs := by
  simp only [goodDeps, allDep, goodDep, Bool.and_eq_true, decide_eq_true_eq, List.all_eq_true] at h
  obtain ⟨_, h2, _, h4⟩ := h
  exact fun d hd => ⟨Told.of h2 (h4 d hd).1, Told.of h2 (h4 d hd).2⟩
theorem mk_take_bl {s : Nat} {zs : List Int} {k : Nat} (hs : s < 64) (hz : ∀ x ∈ zs, 0 ≤ x ∧ x < 6) (hk : k < zs.length) : insI (bl (s ||| mk (zs.take k))) (zs.getD k 0) = bl (s ||| mk (zs.take (k + 1))) := by
  have hx : zs.getD k 0 ∈ zs := by simp [List.getD, hk]
  rw [insI_bl (or_lt64 hs (mk_lt6 fun y hy => hz y (List.mem_of_mem_take hy))) (hz _ hx).1 (hz _ hx).2, mk_take hk, Nat.or_assoc]

end Go.Proofs.YthliamoeplgblaaDoor
