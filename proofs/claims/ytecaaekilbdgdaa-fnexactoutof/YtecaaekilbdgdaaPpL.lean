/- Contracts of the laws' held of Prepared. -/
import Derived.Test.YtecaaekilbdgdaaPpM
import Derived.Test.YtecaaekilbdgdaaIntsR
namespace Go.Proofs.Ytecaaekilbdgdaa
open Go.RowKit

set_option maxRecDepth 100000 in
set_option maxHeartbeats 8000000 in
theorem heldPreparedS_rep (a : Option Addr) (n c : Nat) (xs : List TPrepared) (m : Int) (w : World) (hz : xs.length = n) (hn : n ≤ 1048576) (hs : ∀ (i : Nat) (x : TPrepared), xs[i]? = some x → costPrepared x ≤ 1048576) (ht : msumPrepared xs n ≤ 4194304) (h0 : 0 ≤ m) (h1 : m ≤ 134217728) (ha : AtSl RPrepared w a (mkPrepareds m xs)) :
    Calls Try.prog 30 #[.slice a n c, .int .i64 m] w fun e w' => e = .returned (.int .i64 (m + msumPrepared xs n)) ∧ Below w.heap.size w w' := by
  have hl : (mkPrepareds m xs).length = n := by rw [mkPrepareds_len, hz]
  by_cases hn0 : n = 0
  · subst hn0
    go_enter Try.func30, Try.ntmps30
    go_wp2
    refine wp_loop_rounds 1 ?_
    rw [rounds_succ]
    go_wp2
    go_ret
    exact ⟨by rw [msumPrepared_zero]; simp, Below.refl _ _⟩
  have HA := Hid.mk ha
  have HL := Hid.mk hl
  clear ha hl
  go_enter Try.func30, Try.ntmps30
  go_wp2
  go_loopw [1, 5] (fun q i wr => ∃ k : Nat, k ≤ n ∧ i = .int .i64 k ∧ q = .int .i64 (m + msumPrepared xs k) ∧ Below w.heap.size w wr) (fun _ i _ => n - (intOf i).toNat)
  case atStart => exact ⟨0, Nat.zero_le _, rfl, by simp [msumPrepared_zero], Below.refl _ _⟩
  case round =>
    obtain ⟨k, hk, rfl, rfl, hbw⟩ := hrel
    by_cases hlt : k < n
    · obtain ⟨b, off, rfl, _, hc⟩ := RPrepared.row (AtSl.below HA.out hbw) (by have := HL.out; omega)
      obtain ⟨⟨zi0, zi1, x2⟩, hx⟩ : ∃ x, xs[k]? = some x := ⟨_, List.getElem?_eq_getElem (by omega)⟩
      have hmk := mkL_at mkPrepared mknPrepared m xs k _ hx
      have hsm := hs k _ hx
      have hts := msumPrepared_succ hx
      have htm := msumPrepared_mono xs (k + 1) n (by omega)
      have hT' : szL mknPrepared xs k = msumPrepared xs k := rfl
      rw [hT'] at hmk
      obtain ⟨T, hT⟩ : ∃ T, msumPrepared xs k = T := ⟨_, rfl⟩
      rw [hT] at hts hmk ⊢
      obtain ⟨M, hM⟩ : ∃ M : Int, M = m + T := ⟨_, rfl⟩
      rw [← hM] at hmk ⊢
      obtain ⟨a2, n2, c2, gg0, gg1, gg2, ⟨hv2, hu2, hw2, _⟩⟩ := hc k _ hmk
      have e2 : x2.length = n2 := by rw [← hv2]; unfold mkPrepared; simp only; unfold mkInts; rw [marks_length]
      have hps : mknPrepared (zi0, zi1, x2) = 1 + 1 + n2 := by unfold mknPrepared; simp only; rw [e2]
      rw [hps] at hts
      have hsm := smallPrepared e2 hsm
      have hM0 : 0 ≤ M := by omega
      have hM1 : M ≤ 140000000 := by omega
      have g0 : wr.cell? ⟨b, off + k * 3, none⟩ = some (.int .i64 (M)) := gg0
      have g1 : wr.cell? ⟨b, off + k * 3 + 1, none⟩ = some (.int .i64 (M + 1)) := gg1
      have g2 : wr.cell? ⟨b, off + k * 3 + 2, none⟩ = some (.slice a2 n2 c2) := gg2
      have A2 : Hid (At wr a2 (mkInts (M + 1 + 1) x2)) := Hid.mk (by
        have h9 := hw2
        unfold mkPrepared at h9
        simp only at h9
        exact h9)
      have E2 := Hid.mk e2
      have hn2 : n2 ≤ 1048576 := hsm
      have p2 : ¬ M + 1 + 1 + (n2 : Int) < 0 := by omega
      have HTS := Hid.mk hts
      have HM := Hid.mk hM
      have hki : (k : Int) < (n : Int) := by omega
      clear hmk hc hx hts hT hT' hM hps htm ht gg0 gg1 gg2 hs hsm hv2 hw2 e2
      go_wp2_with fail
      refine (heldInts_rep a2 n2 c2 x2 (M + 1 + 1) wr E2.out hn2 (by omega) (by omega) A2.out).mono ?_
      rintro e w2 ⟨rfl, hb2⟩
      have B2 := hbw.trans (hb2.mono hbw.size)
      clear hb2 A2
      go_wp2
      go_roundw
      case rel => exact ⟨k + 1, by omega, by go_num, by rw [HTS.out, HM.out]; congr 1; push_cast; omega, B2⟩
      case measure => simp [intOf]; omega
    · obtain rfl : k = n := by omega
      go_wp2
      go_ret
      exact ⟨rfl, hbw⟩


end Go.Proofs.Ytecaaekilbdgdaa
