/- Contract of spec.l2OwnRow. -/
import Derived.Test.YtpnaoahlfhbbmaaIntS
import Derived.Test.YtpnaoahlfhbbmaaGroundM
namespace Go.Proofs.Ytpnaoahlfhbbmaa
open Go.RowKit

theorem owns_empty (w : World) (e : TypeId) (size : Nat) : (w.alloc (.cells #[] e)).ownsRow w.heap.size e size (.slice (some ⟨w.heap.size, 0, none⟩) 0 0) 0 [] :=
  ⟨by simp, .inr ⟨w.heap.size, 0, #[], rfl, Nat.le_refl _, heap_alloc_new w _, by simp, by simp, by simp, by simp⟩⟩

set_option maxHeartbeats 1000000 in
set_option maxRecDepth 100000 in
theorem l2OwnRow_any (a : Option Addr) (n c : Nat) (zs : List Int) (w : World) (hz : zs.length = n) (hn : n ≤ 1048576) (hnil : a = none → c = 0) (ha : At w a zs) :
    Calls Try.prog 60 #[.agg #[.slice a n c]] w fun e w' => ∃ r d, e = .returned (.agg #[.slice r n d]) ∧ w'.ownsRow w.heap.size 3 1 (.slice r n d) n (zs.map (.int .i64)) ∧ Below w.heap.size w w' := by
  obtain ⟨i0, hi, hz0, hz1, hz2⟩ := info_parts Try.infoInt
  obtain ⟨W, hW⟩ : ∃ W, W = (w.alloc (.cells #[.slice a n c] 69)).alloc (.cells #[.slice none 0 0] 69) := ⟨_, rfl⟩
  have zW : W.heap.size = w.heap.size + 1 + 1 := by rw [hW]; simp
  have B : Below w.heap.size w W := by rw [hW]; exact ((Below.refl _ _).alloc (Nat.le_refl _) _).alloc (by simp) _
  have c1 : W.cell? ⟨w.heap.size, 0, none⟩ = some (.slice a n c) := by rw [hW]; simp
  have q1 : W.heap[w.heap.size + 1]? = some (.cells #[.slice none 0 0] 69 (0, 0)) := by
    rw [hW]
    have := heap_alloc_new (w.alloc (.cells #[.slice a n c] 69)) (.cells #[.slice none 0 0] 69)
    rwa [World.size_alloc] at this
  have Q1 : (W.alloc (.cells #[] 3)).heap[w.heap.size + 1]? = some (.cells #[.slice none 0 0] 69 (0, 0)) := (Below.heap_alloc _ _ _ (by omega)).trans q1
  have HA := ha.below B
  have HA2 := HA.alloc (.cells #[] 3)
  have OE := owns_empty W 3 1
  clear ha HA
  go_enter Try.func60, Try.ntmps60
  subst hW
  rw [zW] at OE
  go_wp2_with (at_builtin; refine wpList_append_all rfl (.tmp 3) (.tmp 5) 44 rfl (w.heap.size + 1 + 1) 3 i0 (.int .i64 0) 8 Try.underlying44 hi hz0 hz1 hz2 rfl (.slice (some ⟨w.heap.size + 1 + 1, 0, none⟩) 0 0) 0 [] rfl OE a n c zs rfl hz HA2 hnil (by unfold maxLen; omega) (by omega) (by simp) ?_; intro r cap w2 hown2 hgrow2; rw [Nat.zero_add] at hown2; rw [Nat.zero_add]; have hR := (hgrow2.block (w.heap.size + 1) (by simp) (by simp [Value.ownBlock])).trans Q1; have t1 : w2.cell? ⟨w.heap.size + 1, 0, none⟩ = some (.slice none 0 0) := (by rw [cell_of_row w2 _ 0 _ _ (0, 0) hR]; simp); have t2 : w2.frozen? ⟨w.heap.size + 1, 0, none⟩ = false := frozen_of_row w2 _ 0 _ _ hR)
  refine bodyPost_ret (v := .agg #[.slice r n cap]) (by simp [results, Try.results60, go_sem, t1]) rfl ⟨r, cap, rfl, ?_, ?_⟩
  · exact owns_mono (ownsRow_setCell_below hown2 (by simp) _) (by omega)
  · exact ((B.alloc (by omega) _).grown hgrow2 (by simp; omega) (fun j hj => by simp [Value.ownBlock] at hj; omega)).setCell (by simp) _

end Go.Proofs.Ytpnaoahlfhbbmaa
