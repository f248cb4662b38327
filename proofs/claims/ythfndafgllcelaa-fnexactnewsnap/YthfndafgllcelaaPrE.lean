/- Contracts of the laws' eq of Proc, of equal ones. -/
import Derived.Test.YthfndafgllcelaaPrT
import Derived.Test.YthfndafgllcelaaIntE
namespace Go.Proofs.Ythfndafgllcelaa
open Go.RowKit

set_option maxRecDepth 100000 in
set_option maxHeartbeats 8000000 in
theorem eqProc_same (zi0 : Int) (zi1 : Int) (bo2 : Bool) (w : World) :
    Calls Try.prog 65 #[.agg #[.int .i64 zi0, .int .i64 zi1, .bool bo2], .agg #[.int .i64 zi0, .int .i64 zi1, .bool bo2]] w fun e w' => e = .returned (.bool true) ∧ Below w.heap.size w w' := by
  go_enter Try.func65, Try.ntmps65
  go_wp2
  go_ret
  exact ⟨rfl, ((Below.refl _ _).alloc (Nat.le_refl _) _).alloc (by simp) _⟩

set_option maxRecDepth 100000 in
set_option maxHeartbeats 8000000 in
theorem eqProcS_same (a a' : Option Addr) (n c c' : Nat) (xs : List TProc) (w : World) (hz : xs.length = n) (hn : n ≤ 1048576) (ha : AtSl RProc w a xs) (ha' : AtSl RProc w a' xs) :
    Calls Try.prog 38 #[.slice a n c, .slice a' n c'] w fun e w' => e = .returned (.bool true) ∧ Below w.heap.size w w' := by
  by_cases h0 : n = 0
  · subst h0
    go_enter Try.func38, Try.ntmps38
    go_wp2
    refine wp_loop_rounds 1 ?_
    rw [rounds_succ]
    go_wp2
    go_ret
    exact ⟨rfl, Below.refl _ _⟩
  · go_enter Try.func38, Try.ntmps38
    go_wp2
    go_loopw [5] (fun i wr => ∃ (k : Nat), k ≤ n ∧ i = .int .i64 k ∧ Below w.heap.size w wr) (fun i _ => n - (intOf i).toNat)
    case atStart => exact ⟨0, Nat.zero_le _, rfl, Below.refl _ _⟩
    case round =>
      obtain ⟨k, hk, rfl, hbw⟩ := hrel
      by_cases hlt : k < n
      · obtain ⟨b, off, rfl, _, hc⟩ := RProc.row (AtSl.below ha hbw) (by omega)
        obtain ⟨b', off', rfl, _, hc'⟩ := RProc.row (AtSl.below ha' hbw) (by omega)
        obtain ⟨⟨zi0, zi1, bo2⟩, hx⟩ : ∃ x, xs[k]? = some x := ⟨_, List.getElem?_eq_getElem (by omega)⟩
        obtain ⟨e0, e1, e2, _⟩ := hc k _ hx
        obtain ⟨d0, d1, d2, _⟩ := hc' k _ hx
        have hki : (k : Int) < (n : Int) := by omega
        have HE : Hid (∀ w' : World, Below wr.heap.size wr w' → Calls Try.prog 65 #[.agg #[.int .i64 zi0, .int .i64 zi1, .bool bo2], .agg #[.int .i64 zi0, .int .i64 zi1, .bool bo2]] w' fun e w'' => e = .returned (.bool true) ∧ Below w'.heap.size w' w'') :=
          fun w' _ => eqProc_same   zi0 zi1 bo2  w'  
        clear hc hc' ha ha' hx
        go_wp2_with fail
        go_region_held3 (fun w' => w'.cell? ⟨b, off + k * 3, none⟩ = some (.int .i64 zi0) ∧ w'.cell? ⟨b, off + k * 3 + 1, none⟩ = some (.int .i64 zi1) ∧ w'.cell? ⟨b, off + k * 3 + 2, none⟩ = some (.bool bo2) ∧ w'.cell? ⟨b', off' + k * 3, none⟩ = some (.int .i64 zi0) ∧ w'.cell? ⟨b', off' + k * 3 + 1, none⟩ = some (.int .i64 zi1) ∧ w'.cell? ⟨b', off' + k * 3 + 2, none⟩ = some (.bool bo2)) (refine ⟨?_, ?_, ?_, ?_, ?_, ?_⟩ <;> assumption)
          (first | (go_at_call 65; refine (HE.out wr.drew (Below.refl _ _).drew).mono ?_; rintro e w2 ⟨rfl, hb2⟩; have m0 := cell_later hb2 e0; have l0 := cell_later hb2 d0; have m1 := cell_later hb2 e1; have l1 := cell_later hb2 d1; have m2 := cell_later hb2 e2; have l2 := cell_later hb2 d2) | fail)
        go_wp2
        go_roundw
        case rel => exact ⟨k + 1, by omega, by go_num, hbw.drew.trans (hb2.mono hbw.size)⟩
        case measure => simp [intOf]; omega
      · go_wp2
        go_ret
        exact ⟨rfl, hbw⟩

end Go.Proofs.Ythfndafgllcelaa
