/- Contracts of the laws' held of Proc. -/
import Derived.Test.YthfndafgllcelaaPrM
import Derived.Test.YthfndafgllcelaaIntsR
namespace Go.Proofs.Ythfndafgllcelaa
open Go.RowKit

set_option maxRecDepth 100000 in
set_option maxHeartbeats 8000000 in
theorem heldProcS_rep (a : Option Addr) (n c : Nat) (xs : List TProc) (m : Int) (w : World) (hz : xs.length = n) (hn : n ≤ 1048576) (ht : msumProc xs n ≤ 4194304) (h0 : 0 ≤ m) (h1 : m ≤ 134217728) (ha : AtSl RProc w a (mkProcs m xs)) :
    Calls Try.prog 42 #[.slice a n c, .int .i64 m] w fun e w' => e = .returned (.int .i64 (m + msumProc xs n)) ∧ Below w.heap.size w w' := by
  have hl : (mkProcs m xs).length = n := by rw [mkProcs_len, hz]
  by_cases hn0 : n = 0
  · subst hn0
    go_enter Try.func42, Try.ntmps42
    go_wp2
    refine wp_loop_rounds 1 ?_
    rw [rounds_succ]
    go_wp2
    go_ret
    exact ⟨by rw [msumProc_zero]; simp, Below.refl _ _⟩
  have HA := Hid.mk ha
  have HL := Hid.mk hl
  clear ha hl
  go_enter Try.func42, Try.ntmps42
  go_wp2
  go_loopw [1, 5] (fun q i wr => ∃ k : Nat, k ≤ n ∧ i = .int .i64 k ∧ q = .int .i64 (m + msumProc xs k) ∧ Below w.heap.size w wr) (fun _ i _ => n - (intOf i).toNat)
  case atStart => exact ⟨0, Nat.zero_le _, rfl, by simp [msumProc_zero], Below.refl _ _⟩
  case round =>
    obtain ⟨k, hk, rfl, rfl, hbw⟩ := hrel
    by_cases hlt : k < n
    · obtain ⟨b, off, rfl, _, hc⟩ := RProc.row (AtSl.below HA.out hbw) (by have := HL.out; omega)
      obtain ⟨⟨zi0, zi1, bo2⟩, hx⟩ : ∃ x, xs[k]? = some x := ⟨_, List.getElem?_eq_getElem (by omega)⟩
      have hmk := mkL_at mkProc mknProc m xs k _ hx
      have hts := msumProc_succ hx
      have htm := msumProc_mono xs (k + 1) n (by omega)
      have hT' : szL mknProc xs k = msumProc xs k := rfl
      rw [hT'] at hmk
      obtain ⟨T, hT⟩ : ∃ T, msumProc xs k = T := ⟨_, rfl⟩
      rw [hT] at hts hmk ⊢
      obtain ⟨M, hM⟩ : ∃ M : Int, M = m + T := ⟨_, rfl⟩
      rw [← hM] at hmk ⊢
      obtain ⟨gg0, gg1, gg2, _⟩ := hc k _ hmk
      have hps : mknProc (zi0, zi1, bo2) = 1 + 1 + 1 := rfl
      rw [hps] at hts
      have hM0 : 0 ≤ M := by omega
      have hM1 : M ≤ 140000000 := by omega
      have g0 : wr.cell? ⟨b, off + k * 3, none⟩ = some (.int .i64 (M)) := gg0
      have g1 : wr.cell? ⟨b, off + k * 3 + 1, none⟩ = some (.int .i64 (M + 1)) := gg1
      have g2 : wr.cell? ⟨b, off + k * 3 + 2, none⟩ = some (.bool ((M + 1 + 1) % 3 == 0)) := gg2
      have HTS := Hid.mk hts
      have HM := Hid.mk hM
      have hki : (k : Int) < (n : Int) := by omega
      clear hmk hc hx hts hT hT' hM hps htm ht gg0 gg1 gg2
      go_wp2
      go_roundw
      case rel => exact ⟨k + 1, by omega, by go_num, by rw [HTS.out, HM.out]; congr 1; push_cast; omega, hbw⟩
      case measure => simp [intOf]; omega
    · obtain rfl : k = n := by omega
      go_wp2
      go_ret
      exact ⟨rfl, hbw⟩


end Go.Proofs.Ythfndafgllcelaa
