/- Contracts of the laws' eq of Prepared, of equal ones. -/
import Derived.Test.YtecaaekilbdgdaaPpT
import Derived.Test.YtecaaekilbdgdaaIntE
namespace Go.Proofs.Ytecaaekilbdgdaa
open Go.RowKit

set_option maxRecDepth 100000 in
set_option maxHeartbeats 8000000 in
theorem eqPrepared_same (a2 : Option Addr) (n2 : Nat) (c2 : Nat) (a2' : Option Addr) (c2' : Nat) (zi0 : Int) (zi1 : Int) (x2 : List Int) (w : World) (hz2 : x2.length = n2) (hs2 : n2 ≤ 1048576) (ha2 : At w a2 x2) (hb2 : At w a2' x2) :
    Calls Try.prog 50 #[.agg #[.int .i64 zi0, .int .i64 zi1, .slice a2 n2 c2], .agg #[.int .i64 zi0, .int .i64 zi1, .slice a2' n2 c2']] w fun e w' => e = .returned (.bool true) ∧ Below w.heap.size w w' := by
  obtain ⟨W, hW⟩ : ∃ W, W = ((w.alloc (.cells #[.int .i64 zi0, .int .i64 zi1, .slice a2 n2 c2] 50)).alloc (.cells #[.int .i64 zi0, .int .i64 zi1, .slice a2' n2 c2'] 50)) := ⟨_, rfl⟩
  have B0 : Below w.heap.size w W := by rw [hW]; exact (((Below.refl _ _).alloc (Nat.le_refl _) _).alloc (by simp) _)
  have HA2 := Hid.mk (And.intro ha2 hb2)
  have HZ2 := Hid.mk hz2
  clear ha2 hb2 hz2
  go_enter Try.func50, Try.ntmps50
  go_wp2_with fail
  rw [← hW]
  clear hW
  refine (eqIntS_same a2 a2' n2 c2 c2' x2 W HZ2.out hs2 (At.below HA2.out.1 B0) (At.below HA2.out.2 B0)).mono ?_
  rintro e w0 ⟨rfl, hb0⟩
  have B1 := B0.trans (hb0.mono B0.size)
  go_wp2
  go_ret
  exact ⟨rfl, B1⟩

set_option maxRecDepth 100000 in
set_option maxHeartbeats 8000000 in
theorem eqPreparedS_same (a a' : Option Addr) (n c c' : Nat) (xs : List TPrepared) (w : World) (hz : xs.length = n) (hn : n ≤ 1048576) (hs : ∀ (i : Nat) (x : TPrepared), xs[i]? = some x → costPrepared x ≤ 1048576) (ha : AtSl RPrepared w a xs) (ha' : AtSl RPrepared w a' xs) :
    Calls Try.prog 28 #[.slice a n c, .slice a' n c'] w fun e w' => e = .returned (.bool true) ∧ Below w.heap.size w w' := by
  by_cases h0 : n = 0
  · subst h0
    go_enter Try.func28, Try.ntmps28
    go_wp2
    refine wp_loop_rounds 1 ?_
    rw [rounds_succ]
    go_wp2
    go_ret
    exact ⟨rfl, Below.refl _ _⟩
  · go_enter Try.func28, Try.ntmps28
    go_wp2
    go_loopw [5] (fun i wr => ∃ (k : Nat), k ≤ n ∧ i = .int .i64 k ∧ Below w.heap.size w wr) (fun i _ => n - (intOf i).toNat)
    case atStart => exact ⟨0, Nat.zero_le _, rfl, Below.refl _ _⟩
    case round =>
      obtain ⟨k, hk, rfl, hbw⟩ := hrel
      by_cases hlt : k < n
      · obtain ⟨b, off, rfl, _, hc⟩ := RPrepared.row (AtSl.below ha hbw) (by omega)
        obtain ⟨b', off', rfl, _, hc'⟩ := RPrepared.row (AtSl.below ha' hbw) (by omega)
        obtain ⟨⟨zi0, zi1, x2⟩, hx⟩ : ∃ x, xs[k]? = some x := ⟨_, List.getElem?_eq_getElem (by omega)⟩
        obtain ⟨a2, n2, c2, e0, e1, e2, ⟨hv2, hu2, hw2, _⟩⟩ := hc k _ hx
        obtain ⟨a2', n2', c2', d0, d1, d2, ⟨hv2', _, hw2', _⟩⟩ := hc' k _ hx
        obtain rfl : n2 = n2' := hv2.symm.trans hv2'
        have hsm := smallPrepared hv2 (hs k _ hx)
        have hki : (k : Int) < (n : Int) := by omega
        have HE : Hid (∀ w' : World, Below wr.heap.size wr w' → Calls Try.prog 50 #[.agg #[.int .i64 zi0, .int .i64 zi1, .slice a2 n2 c2], .agg #[.int .i64 zi0, .int .i64 zi1, .slice a2' n2 c2']] w' fun e w'' => e = .returned (.bool true) ∧ Below w'.heap.size w' w'') :=
          fun w' hw' => eqPrepared_same a2 n2 c2 a2' c2' zi0 zi1 x2 w' hv2 hsm (At.below hw2 hw') (At.below hw2' hw')
        clear hc hc' ha ha' hx hs hsm hv2 hw2 hv2' hw2'
        go_wp2_with fail
        go_region_held3 (fun w' => w'.cell? ⟨b, off + k * 3, none⟩ = some (.int .i64 zi0) ∧ w'.cell? ⟨b, off + k * 3 + 1, none⟩ = some (.int .i64 zi1) ∧ w'.cell? ⟨b, off + k * 3 + 2, none⟩ = some (.slice a2 n2 c2) ∧ w'.cell? ⟨b', off' + k * 3, none⟩ = some (.int .i64 zi0) ∧ w'.cell? ⟨b', off' + k * 3 + 1, none⟩ = some (.int .i64 zi1) ∧ w'.cell? ⟨b', off' + k * 3 + 2, none⟩ = some (.slice a2' n2 c2')) (refine ⟨?_, ?_, ?_, ?_, ?_, ?_⟩ <;> assumption)
          (first | (go_at_call 50; refine (HE.out wr.drew (Below.refl _ _).drew).mono ?_; rintro e w2 ⟨rfl, hb2⟩; have m0 := cell_later hb2 e0; have l0 := cell_later hb2 d0; have m1 := cell_later hb2 e1; have l1 := cell_later hb2 d1; have m2 := cell_later hb2 e2; have l2 := cell_later hb2 d2) | fail)
        go_wp2
        go_roundw
        case rel => exact ⟨k + 1, by omega, by go_num, hbw.drew.trans (hb2.mono hbw.size)⟩
        case measure => simp [intOf]; omega
      · go_wp2
        go_ret
        exact ⟨rfl, hbw⟩

end Go.Proofs.Ytecaaekilbdgdaa
