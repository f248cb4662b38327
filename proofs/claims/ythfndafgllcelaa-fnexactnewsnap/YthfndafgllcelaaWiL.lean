/- Contracts of the laws' held of Wire. -/
import Derived.Test.YthfndafgllcelaaWiM
import Derived.Test.YthfndafgllcelaaIntsR
namespace Go.Proofs.Ythfndafgllcelaa
open Go.RowKit

set_option maxRecDepth 100000 in
set_option maxHeartbeats 8000000 in
theorem heldWireS_rep (a : Option Addr) (n c : Nat) (xs : List TWire) (m : Int) (w : World) (hz : xs.length = n) (hn : n ≤ 1048576) (hs : ∀ (i : Nat) (x : TWire), xs[i]? = some x → costWire x ≤ 1048576) (ht : msumWire xs n ≤ 4194304) (h0 : 0 ≤ m) (h1 : m ≤ 134217728) (ha : AtSl RWire w a (mkWires m xs)) :
    Calls Try.prog 43 #[.slice a n c, .int .i64 m] w fun e w' => e = .returned (.int .i64 (m + msumWire xs n)) ∧ Below w.heap.size w w' := by
  have hl : (mkWires m xs).length = n := by rw [mkWires_len, hz]
  by_cases hn0 : n = 0
  · subst hn0
    go_enter Try.func43, Try.ntmps43
    go_wp2
    refine wp_loop_rounds 1 ?_
    rw [rounds_succ]
    go_wp2
    go_ret
    exact ⟨by rw [msumWire_zero]; simp, Below.refl _ _⟩
  have HA := Hid.mk ha
  have HL := Hid.mk hl
  clear ha hl
  go_enter Try.func43, Try.ntmps43
  go_wp2
  go_loopw [1, 5] (fun q i wr => ∃ k : Nat, k ≤ n ∧ i = .int .i64 k ∧ q = .int .i64 (m + msumWire xs k) ∧ Below w.heap.size w wr) (fun _ i _ => n - (intOf i).toNat)
  case atStart => exact ⟨0, Nat.zero_le _, rfl, by simp [msumWire_zero], Below.refl _ _⟩
  case round =>
    obtain ⟨k, hk, rfl, rfl, hbw⟩ := hrel
    by_cases hlt : k < n
    · obtain ⟨b, off, rfl, _, hc⟩ := RWire.row (AtSl.below HA.out hbw) (by have := HL.out; omega)
      obtain ⟨⟨x0, x1, bo2⟩, hx⟩ : ∃ x, xs[k]? = some x := ⟨_, List.getElem?_eq_getElem (by omega)⟩
      have hmk := mkL_at mkWire mknWire m xs k _ hx
      have hsm := hs k _ hx
      have hts := msumWire_succ hx
      have htm := msumWire_mono xs (k + 1) n (by omega)
      have hT' : szL mknWire xs k = msumWire xs k := rfl
      rw [hT'] at hmk
      obtain ⟨T, hT⟩ : ∃ T, msumWire xs k = T := ⟨_, rfl⟩
      rw [hT] at hts hmk ⊢
      obtain ⟨M, hM⟩ : ∃ M : Int, M = m + T := ⟨_, rfl⟩
      rw [← hM] at hmk ⊢
      obtain ⟨a0, n0, c0, a1, n1, c1, gg0, gg1, gg2, ⟨hv0, hu0, hw0, _⟩, ⟨hv1, hu1, hw1, _⟩⟩ := hc k _ hmk
      have e0 : x0.length = n0 := by rw [← hv0]; unfold mkWire; simp only; unfold mkInts; rw [marks_length]
      have e1 : x1.length = n1 := by rw [← hv1]; unfold mkWire; simp only; unfold mkInts; rw [marks_length]
      have hps : mknWire (x0, x1, bo2) = n0 + n1 + 1 := by unfold mknWire; simp only; rw [e0, e1]
      rw [hps] at hts
      have hsm := smallWire e0 e1 hsm
      have hM0 : 0 ≤ M := by omega
      have hM1 : M ≤ 140000000 := by omega
      have g0 : wr.cell? ⟨b, off + k * 3, none⟩ = some (.slice a0 n0 c0) := gg0
      have g1 : wr.cell? ⟨b, off + k * 3 + 1, none⟩ = some (.slice a1 n1 c1) := gg1
      have g2 : wr.cell? ⟨b, off + k * 3 + 2, none⟩ = some (.bool ((M + (n0 : Int) + (n1 : Int)) % 3 == 0)) := by have h9 := gg2; unfold mkWire mkB at h9; simp only [e0, e1] at h9; exact h9
      have A0 : Hid (At wr a0 (mkInts (M) x0)) := Hid.mk (by
        have h9 := hw0
        unfold mkWire at h9
        simp only at h9
        exact h9)
      have E0 := Hid.mk e0
      have hn0 : n0 ≤ 1048576 := hsm.1
      have A1 : Hid (At wr a1 (mkInts (M + (n0 : Int)) x1)) := Hid.mk (by
        have h9 := hw1
        unfold mkWire at h9
        simp only [e0] at h9
        exact h9)
      have E1 := Hid.mk e1
      have hn1 : n1 ≤ 1048576 := hsm.2
      have p0 : ¬ M + (n0 : Int) < 0 := by omega
      have p1 : ¬ M + (n0 : Int) + (n1 : Int) < 0 := by omega
      have HTS := Hid.mk hts
      have HM := Hid.mk hM
      have hki : (k : Int) < (n : Int) := by omega
      clear hmk hc hx hts hT hT' hM hps htm ht gg0 gg1 gg2 hs hsm hv0 hw0 e0 hv1 hw1 e1
      go_wp2_with fail
      refine (heldInts_rep a0 n0 c0 x0 (M) wr E0.out hn0 (by omega) (by omega) A0.out).mono ?_
      rintro e w0 ⟨rfl, hb0⟩
      have B0 := hbw.trans (hb0.mono hbw.size)
      have g1 := cell_later hb0 g1
      have g2 := cell_later hb0 g2
      have A1 := Hid.mk (At.below A1.out hb0)
      clear hb0 A0
      go_wp2_with fail
      refine (heldInts_rep a1 n1 c1 x1 (M + (n0 : Int)) w0 E1.out hn1 (by omega) (by omega) A1.out).mono ?_
      rintro e w1 ⟨rfl, hb1⟩
      have B1 := B0.trans (hb1.mono B0.size)
      have g2 := cell_later hb1 g2
      clear hb1 A1
      go_wp2
      go_roundw
      case rel => exact ⟨k + 1, by omega, by go_num, by rw [HTS.out, HM.out]; congr 1; push_cast; omega, B1⟩
      case measure => simp [intOf]; omega
    · obtain rfl : k = n := by omega
      go_wp2
      go_ret
      exact ⟨rfl, hbw⟩


end Go.Proofs.Ythfndafgllcelaa
