/- Contract of the laws' heldDependS over things that the laws marked. -/
import Derived.Test.YtjmgjmhoofbpjabDoorLawD6
namespace Go.Proofs.YtjmgjmhoofbpjabDoor
open Go.RowKit

theorem deps_len {w : World} {F : Nat → Prop} {a : Option Addr} {n c : Nat} {xs : List Dep} (h : RDeps.Own w F [.slice a n c] xs) : xs.length = n := by
  obtain ⟨a', n', c', e, h1, _, h3, _⟩ := RDeps.toAt h
  simp only [List.cons.injEq, Value.slice.injEq, and_true] at e
  obtain ⟨rfl, rfl, rfl⟩ := e
  exact h1

set_option maxRecDepth 100000 in
set_option maxHeartbeats 4000000 in
theorem heldDependS_rep (a : Option Addr) (n c : Nat) (xs : List Dep) (m : Int) (w : World) (hz : xs.length = n) (hn : n ≤ 1048576) (ht : dsum xs n ≤ 1048576) (h0 : 0 ≤ m) (h1 : m ≤ 134217728) (ha : AtD w a (mkDeps m xs)) :
    Calls Tryd.prog 10 #[.slice a n c, .int .i64 m] w fun e w' => e = .returned (.int .i64 (m + dsum xs n)) ∧ Below w.heap.size w w' := by
  have hl : (mkDeps m xs).length = n := by unfold mkDeps; rw [mkL_length, hz]
  by_cases hn0 : n = 0
  · subst hn0
    go_enter Tryd.func10, Tryd.ntmps10
    go_wp2
    refine wp_loop_rounds 1 ?_
    rw [rounds_succ]
    go_wp2
    go_ret
    exact ⟨by rw [dsum_zero]; simp, Below.refl _ _⟩
  have HA := Hid.mk ha
  have HL := Hid.mk hl
  clear ha hl
  go_enter Tryd.func10, Tryd.ntmps10
  go_wp2
  go_loopw [1, 5] (fun q i wr => ∃ k : Nat, k ≤ n ∧ i = .int .i64 k ∧ q = .int .i64 (m + dsum xs k) ∧ Below w.heap.size w wr) (fun _ i _ => n - (intOf i).toNat)
  case atStart => exact ⟨0, Nat.zero_le _, rfl, by simp [dsum_zero], Below.refl _ _⟩
  case round =>
    obtain ⟨k, hk, rfl, rfl, hbw⟩ := hrel
    by_cases hlt : k < n
    · obtain ⟨b, off, rfl, hc⟩ := AtD.rowD (AtSl.below HA.out hbw) (by have := HL.out; omega)
      obtain ⟨x, hx⟩ : ∃ x, xs[k]? = some x := ⟨_, List.getElem?_eq_getElem (by omega)⟩
      have hmk := mkL_at mkDep dcost m xs k x hx
      obtain ⟨fa, fn, fc, ta, tn, tc, g0, g1, hrd⟩ := hc k _ hmk
      obtain ⟨⟨t1, t2, t3, _⟩, ⟨u1, u2, u3, _⟩⟩ := RDep.at_iff hrd
      have hts := dsum_succ hx
      have htm := dsum_mono xs (k + 1) n (by omega)
      have hT' : szL dcost xs k = dsum xs k := rfl
      rw [hT'] at t1 t3 u1 u3
      obtain ⟨T, hT⟩ : ∃ T, dsum xs k = T := ⟨_, rfl⟩
      rw [hT] at hts t1 t3 u1 u3 ⊢
      have e1 : x.1.length = fn := by rw [← t1]; unfold mkDep mkInts; rw [marks_length]
      have e2 : x.2.length = tn := by rw [← u1]; unfold mkDep mkInts; rw [marks_length]
      have hps : dcost x = fn + tn := by unfold dcost; rw [e1, e2]
      rw [hps] at hts
      obtain ⟨M, hM⟩ : ∃ M : Int, M = m + T := ⟨_, rfl⟩
      rw [← hM] at t3 u3 ⊢
      have A1 : Hid (At wr fa (mkInts M x.1)) := t3
      have A2 : Hid (At wr ta (mkInts (M + fn) x.2)) := by rw [← e1]; exact u3
      have E1 := Hid.mk e1
      have E2 := Hid.mk e2
      have HTS := Hid.mk hts
      have HM := Hid.mk hM
      have hM0 : 0 ≤ M := by omega
      have hM1 : M ≤ 140000000 := by omega
      have hs1 : fn ≤ 1048576 := by omega
      have hs2 : tn ≤ 1048576 := by omega
      have hki : (k : Int) < (n : Int) := by omega
      have p1 : ¬ M + (fn : Int) < 0 := by omega
      have p2 : ¬ M + (fn : Int) + (tn : Int) < 0 := by omega
      clear t1 t3 u1 u3 hrd hmk hc hx hts hT hT' hM e1 e2 hps htm ht
      go_wp2_with fail
      refine (heldInts_rep fa fn fc x.1 M wr E1.out hs1 (by omega) (by omega) A1.out).mono ?_
      rintro e w1 ⟨rfl, hb1⟩
      have g1 := cell_later hb1 g1
      have A2' := Hid.mk (At.below A2.out hb1)
      have B1 := Hid.mk (hbw.trans (hb1.mono hbw.size))
      clear hb1 A1 A2 g0
      go_wp2_with fail
      refine (heldInts_rep ta tn tc x.2 (M + fn) w1 E2.out hs2 (by omega) (by omega) A2'.out).mono ?_
      rintro e w2 ⟨rfl, hb2⟩
      have B2 := Hid.mk (B1.out.trans (hb2.mono B1.out.size))
      clear hb2 A2' B1 g1
      go_wp2
      go_roundw
      case rel => exact ⟨k + 1, by omega, by go_num, by rw [HTS.out, HM.out]; congr 1; push_cast; omega, B2.out⟩
      case measure => simp [intOf]; omega
    · obtain rfl : k = n := by omega
      go_wp2
      go_ret
      exact ⟨rfl, hbw⟩

end Go.Proofs.YtjmgjmhoofbpjabDoor
