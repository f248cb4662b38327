/- Several texts of one proof, in build order: WiL, SnpL, LawPlaySnap. -/
import Derived.Test.YtnfdncofobkjhaaM30
import Derived.Test.YtnfdncofobkjhaaM3
import Derived.Test.YtnfdncofobkjhaaM27
import Derived.Test.YtnfdncofobkjhaaM28
import Derived.Test.YtnfdncofobkjhaaM29
import Derived.Test.YtnfdncofobkjhaaM4

/- Contracts of the laws' held of Wire. -/
namespace Go.Proofs.Ytnfdncofobkjhaa
open Go.RowKit

set_option maxRecDepth 100000 in
set_option maxHeartbeats 8000000 in
theorem heldWireS_rep (a : Option Addr) (n c : Nat) (xs : List TWire) (m : Int) (w : World) (hz : xs.length = n) (hn : n ≤ 1048576) (hs : ∀ (i : Nat) (x : TWire), xs[i]? = some x → costWire x ≤ 1048576) (ht : msumWire xs n ≤ 4194304) (h0 : 0 ≤ m) (h1 : m ≤ 134217728) (ha : AtSl RWire w a (mkWires m xs)) :
    Calls Try.prog 43 #[.slice a n c, .int .i64 m] w fun e w' => e = .returned (.int .i64 (m + msumWire xs n)) ∧ Below w.heap.size w w' := by
  have hl : (mkWires m xs).length = n := by rw [mkWires_len, hz]
  by_cases hn0 : n = 0
  · subst hn0
    go_enter Try.func43, Try.ntmps43
    go_wp2
    refine wp_loop_rounds 1 ?_
    rw [rounds_succ]
    go_wp2
    go_ret
    exact ⟨by rw [msumWire_zero]; simp, Below.refl _ _⟩
  have HA := Hid.mk ha
  have HL := Hid.mk hl
  clear ha hl
  go_enter Try.func43, Try.ntmps43
  go_wp2
  go_loopw [1, 5] (fun q i wr => ∃ k : Nat, k ≤ n ∧ i = .int .i64 k ∧ q = .int .i64 (m + msumWire xs k) ∧ Below w.heap.size w wr) (fun _ i _ => n - (intOf i).toNat)
  case atStart => exact ⟨0, Nat.zero_le _, rfl, by simp [msumWire_zero], Below.refl _ _⟩
  case round =>
    obtain ⟨k, hk, rfl, rfl, hbw⟩ := hrel
    by_cases hlt : k < n
    · obtain ⟨b, off, rfl, _, hc⟩ := RWire.row (AtSl.below HA.out hbw) (by have := HL.out; omega)
      obtain ⟨⟨x0, x1, bo2⟩, hx⟩ : ∃ x, xs[k]? = some x := ⟨_, List.getElem?_eq_getElem (by omega)⟩
      have hmk := mkL_at mkWire mknWire m xs k _ hx
      have hsm := hs k _ hx
      have hts := msumWire_succ hx
      have htm := msumWire_mono xs (k + 1) n (by omega)
      have hT' : szL mknWire xs k = msumWire xs k := rfl
      rw [hT'] at hmk
      obtain ⟨T, hT⟩ : ∃ T, msumWire xs k = T := ⟨_, rfl⟩
      rw [hT] at hts hmk ⊢
      obtain ⟨M, hM⟩ : ∃ M : Int, M = m + T := ⟨_, rfl⟩
      rw [← hM] at hmk ⊢
      obtain ⟨a0, n0, c0, a1, n1, c1, gg0, gg1, gg2, ⟨hv0, hu0, hw0, _⟩, ⟨hv1, hu1, hw1, _⟩⟩ := hc k _ hmk
      have e0 : x0.length = n0 := by rw [← hv0]; unfold mkWire; simp only; unfold mkInts; rw [marks_length]
      have e1 : x1.length = n1 := by rw [← hv1]; unfold mkWire; simp only; unfold mkInts; rw [marks_length]
      have hps : mknWire (x0, x1, bo2) = n0 + n1 + 1 := by unfold mknWire; simp only; rw [e0, e1]
      rw [hps] at hts
      have hsm := smallWire e0 e1 hsm
      have hM0 : 0 ≤ M := by omega
      have hM1 : M ≤ 140000000 := by omega
      have g0 : wr.cell? ⟨b, off + k * 3, none⟩ = some (.slice a0 n0 c0) := gg0
      have g1 : wr.cell? ⟨b, off + k * 3 + 1, none⟩ = some (.slice a1 n1 c1) := gg1
      have g2 : wr.cell? ⟨b, off + k * 3 + 2, none⟩ = some (.bool ((M + (n0 : Int) + (n1 : Int)) % 3 == 0)) := by have h9 := gg2; unfold mkWire mkB at h9; simp only [e0, e1] at h9; exact h9
      have A0 : Hid (At wr a0 (mkInts (M) x0)) := Hid.mk (by
        have h9 := hw0
        unfold mkWire at h9
        simp only at h9
        exact h9)
      have E0 := Hid.mk e0
      have hn0 : n0 ≤ 1048576 := hsm.1
      have A1 : Hid (At wr a1 (mkInts (M + (n0 : Int)) x1)) := Hid.mk (by
        have h9 := hw1
        unfold mkWire at h9
        simp only [e0] at h9
        exact h9)
      have E1 := Hid.mk e1
      have hn1 : n1 ≤ 1048576 := hsm.2
      have p0 : ¬ M + (n0 : Int) < 0 := by omega
      have p1 : ¬ M + (n0 : Int) + (n1 : Int) < 0 := by omega
      have HTS := Hid.mk hts
      have HM := Hid.mk hM
      have hki : (k : Int) < (n : Int) := by omega
      clear hmk hc hx hts hT hT' hM hps htm ht gg0 gg1 gg2 hs hsm hv0 hw0 e0 hv1 hw1 e1
      go_wp2_with fail
      refine (heldInts_rep a0 n0 c0 x0 (M) wr E0.out hn0 (by omega) (by omega) A0.out).mono ?_
      rintro e w0 ⟨rfl, hb0⟩
      have B0 := hbw.trans (hb0.mono hbw.size)
      have g1 := cell_later hb0 g1
      have g2 := cell_later hb0 g2
      have A1 := Hid.mk (At.below A1.out hb0)
      clear hb0 A0
      go_wp2_with fail
      refine (heldInts_rep a1 n1 c1 x1 (M + (n0 : Int)) w0 E1.out hn1 (by omega) (by omega) A1.out).mono ?_
      rintro e w1 ⟨rfl, hb1⟩
      have B1 := B0.trans (hb1.mono B0.size)
      have g2 := cell_later hb1 g2
      clear hb1 A1
      go_wp2
      go_roundw
      case rel => exact ⟨k + 1, by omega, by go_num, by rw [HTS.out, HM.out]; congr 1; push_cast; omega, B1⟩
      case measure => simp [intOf]; omega
    · obtain rfl : k = n := by omega
      go_wp2
      go_ret
      exact ⟨rfl, hbw⟩


end Go.Proofs.Ytnfdncofobkjhaa

/- Contracts of the laws' held of Snap. -/
namespace Go.Proofs.Ytnfdncofobkjhaa
open Go.RowKit

set_option maxRecDepth 100000 in
set_option maxHeartbeats 8000000 in
theorem heldSnap_rep (a0 : Option Addr) (n0 : Nat) (c0 : Nat) (a1 : Option Addr) (n1 : Nat) (c1 : Nat)  (x0 : List TProc) (x1 : List TWire) (m : Int) (w : World) (hz0 : x0.length = n0) (hs0 : n0 ≤ 1048576) (hz1 : x1.length = n1) (hs1 : n1 ≤ 1048576) (hd1 : ∀ (i : Nat) (x : TWire), x1[i]? = some x → costWire x ≤ 1048576) (hc1 : csumWire x1 n1 ≤ 1048576) (h0 : 0 ≤ m) (h1 : m ≤ 16777216) (ho : RSnap.At w [.slice a0 n0 c0, .slice a1 n1 c1] (mkSnap m (x0, x1))) :
    Calls Try.prog 13 #[.agg #[.slice a0 n0 c0, .slice a1 n1 c1], .int .i64 m] w fun e w' => e = .returned (.int .i64 (m + (mknSnap (x0, x1) : Nat))) ∧ Below w.heap.size w w' := by
  obtain ⟨V0, hV0⟩ : ∃ V : Nat, msumProc x0 n0 = V := ⟨_, rfl⟩
  have hV0' : V0 ≤ 4194304 := by rw [← hV0, msumProc_eq x0 n0 (by omega)]; omega
  obtain ⟨V1, hV1⟩ : ∃ V : Nat, msumWire x1 n1 = V := ⟨_, rfl⟩
  have hV1' : V1 ≤ 4194304 := by have q := hc1; rw [← hV1, msumWire_eq x1 n1 (by omega)]; omega
  have hv : mknSnap (x0, x1) = V0 + V1 := by unfold mknSnap; simp only; rw [hz0, hz1, hV0, hV1]
  rw [hv]
  have hf := RSnap.at_iff ho
  clear ho
  have A0 : Hid (AtSl RProc w a0 (mkProcs (m) x0)) := Hid.mk (by
    have h9 := hf.1.2.2.1
    exact h9)
  have A1 : Hid (AtSl RWire w a1 (mkWires (m + (V0 : Int)) x1)) := Hid.mk (by
    have h9 := hf.2.2.2.1
    simp only [hz0, hV0] at h9
    exact h9)
  clear hf hv
  obtain ⟨W, hW⟩ : ∃ W, W = w.alloc (.cells #[.slice a0 n0 c0, .slice a1 n1 c1] 32) := ⟨_, rfl⟩
  have B0 : Below w.heap.size w W := by rw [hW]; exact (Below.refl _ _).alloc (Nat.le_refl _) _
  have p1 : W.cell? ⟨w.heap.size, 1, none⟩ = some (.slice a1 n1 c1) := by rw [hW]; simp
  have HZ0 := Hid.mk hz0
  clear hz0
  have HV0 := Hid.mk hV0
  clear hV0
  have HZ1 := Hid.mk hz1
  clear hz1
  have HD1 := Hid.mk hd1
  clear hd1
  have HV1 := Hid.mk hV1
  clear hV1
  go_enter Try.func13, Try.ntmps13
  have y0 : ¬ m + (V0 : Int) < 0 := by omega
  go_wp2_with fail
  rw [← hW]
  clear hW
  refine (heldProcS_rep a0 n0 c0 x0 (m) W HZ0.out hs0 (by rw [HV0.out]; exact hV0') (by omega) (by omega) (AtSl.below A0.out B0)).mono ?_
  rintro e w0 ⟨rfl, hb0⟩
  rw [HV0.out]
  have B1 := B0.trans (hb0.mono B0.size)
  have p1 := cell_later hb0 p1
  have y1 : ¬ m + (V0 : Int) + (V1 : Int) < 0 := by omega
  go_wp2_with fail
  refine (heldWireS_rep a1 n1 c1 x1 (m + (V0 : Int)) w0 HZ1.out hs1 HD1.out (by rw [HV1.out]; exact hV1') (by omega) (by omega) (AtSl.below A1.out B1)).mono ?_
  rintro e w1 ⟨rfl, hb1⟩
  rw [HV1.out]
  have B2 := B1.trans (hb1.mono B1.size)
  go_wp2
  go_ret
  exact ⟨ret_int (by push_cast; omega), B2⟩

end Go.Proofs.Ytnfdncofobkjhaa

/- The law FnExactPlaySnap returns true at every input, and writes nothing that was there. -/
namespace Go.Proofs.Ytnfdncofobkjhaa
open Go.RowKit

set_option maxRecDepth 100000 in
set_option maxHeartbeats 16000000 in
theorem lawPlaySnap (a0 : Option Addr) (n0 c0 : Nat) (z0 : List Int) (a1 : Option Addr) (n1 c1 : Nat) (z1 : List TSnapStep) (w : World) (hz0 : z0.length = n0) (hn0 : n0 ≤ 9223372036854775807) (ha0 : At w a0 z0) (hz1 : z1.length = n1) (hn1 : n1 ≤ 9223372036854775807) (ha1 : AtSl RSnapStep w a1 z1) :
    Calls Try.prog 4 #[.slice a0 n0 c0, .slice a1 n1 c1] w fun e w' => e = .returned (.bool true) ∧ Below w.heap.size w w' := by
  have HA0 := Hid.mk ha0
  have HZ0 := Hid.mk hz0
  clear ha0 hz0
  have HA1 := Hid.mk ha1
  have HZ1 := Hid.mk hz1
  clear ha1 hz1
  have B0 : Below w.heap.size w w := Below.refl _ _
  by_cases big0 : 1048576 < n0
  · have big0' : (1048576 : Int) < (n0 : Int) := by omega
    go_enter Try.func4, Try.ntmps4
    go_wp2
    go_ret
    exact ⟨rfl, B0⟩
  have hb0' : ¬ (1048576 : Int) < (n0 : Int) := by omega
  have hsn0 : n0 ≤ 1048576 := by omega
  have HVB0 := hsn0
  obtain ⟨C1, hC1⟩ : ∃ C : Nat, cost4 n1 = C := ⟨_, rfl⟩
  have HC1 := Hid.mk hC1
  clear hC1
  by_cases big1 : (1048576 : Int) < (C1 : Int)
  · go_enter Try.func4, Try.ntmps4
    go_wp2_with fail
    refine (szSnapStepS_c a1 n1 c1 z1 _ _ HZ1.out hn1 (by omega) (by omega) (AtSl.below HA1.out B0)).mono ?_
    rintro e v0 ⟨rfl, hv0⟩
    rw [HC1.out, leftOf_no big1]
    have y0 := B0.trans (hv0.mono B0.size)
    go_wp2
    go_ret
    exact ⟨rfl, y0⟩
  have hl1 : ¬ (1048576 : Int) - (C1 : Int) < 0 := by omega
  have hsn1 : n1 ≤ 1048576 := by have q := HC1.out; unfold cost4 at q; omega
  have HVB1 : msumSnapStep z1 n1 ≤ 4194304 := by rw [msumSnapStep_eq z1 n1 (by have q := HZ1.out; omega)]; omega
  obtain ⟨V1, hV1⟩ : ∃ V : Nat, msumSnapStep z1 n1 = V := ⟨_, rfl⟩
  rw [hV1] at HVB1
  have HV1 := Hid.mk hV1
  clear hV1
  obtain ⟨v0, t0, t1, tb, hsA, hsB, HS, HI⟩ : ∃ (v0 : Bool) (t0 : List TProc) (t1 : List TWire) (tb : List Bool), costSnap (t0, t1) ≤ 1048576 ∧ tb.length ≤ 120 ∧ Hid (∀ (x0 : Nat) (x1 : Nat) (w : World) (F0 F1 : Nat → Prop), RInts.Own w F0 [.slice (some ⟨x0, 0, none⟩) n0 n0] z0 → RSnapSteps.Own w F1 [.slice (some ⟨x1, 0, none⟩) n1 n1] z1 → Calls Try.prog 15 #[.slice (some ⟨x0, 0, none⟩) n0 n0, .slice (some ⟨x1, 0, none⟩) n1 n1] w fun e w' => PzRet e w' w.heap.size v0 (t0, t1) tb ∧ Below w.heap.size w w') ∧ Hid (∀ (x0 : Nat) (x1 : Nat) (w : World) (F0 F1 : Nat → Prop), RInts.Own w F0 [.slice (some ⟨x0, 0, none⟩) n0 n0] z0 → RSnapSteps.Own w F1 [.slice (some ⟨x1, 0, none⟩) n1 n1] z1 → Calls Try.prog 18 #[.slice (some ⟨x0, 0, none⟩) n0 n0, .slice (some ⟨x1, 0, none⟩) n1 n1] w fun e w' => PzRet e w' w.heap.size v0 (t0, t1) tb ∧ Below w.heap.size w w') := ⟨pzOk z0 z1, (pzX z0 z1).1, (pzX z0 z1).2, pzB z0 z1, pz_small z0 z1, pz_len z0 z1, fun x0 x1 w F0 F1 o0 o1 => specPlaySnap (some ⟨x0, 0, none⟩) n0 n0 (some ⟨x1, 0, none⟩) n1 n1 z0 z1 w HZ0.out hsn0 (ints_at o0) HZ1.out hsn1 (RSnapSteps.atSl o1).2, fun x0 x1 w F0 F1 o0 o1 => implPlaySnap (some ⟨x0, 0, none⟩) n0 n0 (some ⟨x1, 0, none⟩) n1 n1 z0 z1 w HZ0.out hsn0 (ints_at o0) HZ1.out hsn1 (RSnapSteps.atSl o1).2⟩
  obtain ⟨l0, hl0⟩ : ∃ l, t0.length = l := ⟨_, rfl⟩
  obtain ⟨l1, hl1⟩ : ∃ l, t1.length = l := ⟨_, rfl⟩
  have hsm := smallSnap hl0 hl1 (by omega : costSnap (t0, t1) ≤ 1048576)
  have hs0 : l0 ≤ 1048576 := hsm.1
  have hs1 : l1 ≤ 1048576 := hsm.2.1
  have HD1 := Hid.mk hsm.2.2
  have hcc : l0 + (l1 + csumWire t1 l1) ≤ 1048576 := by unfold costSnap at hsA; simp only [hl0, hl1] at hsA; omega
  have hcs1 : csumWire t1 l1 ≤ 1048576 := by omega
  obtain ⟨VA, hVA⟩ : ∃ V : Nat, mknSnap (t0, t1) = V := ⟨_, rfl⟩
  have hvA : VA ≤ 8388608 := by
    rw [← hVA]
    unfold mknSnap
    simp only [hl0, hl1]
    rw [msumProc_eq t0 l0 (by omega), msumWire_eq t1 l1 (by omega)]
    omega
  have HVA := Hid.mk hVA
  have HL0 := Hid.mk hl0
  have HL1 := Hid.mk hl1
  clear hVA hsA hsm hcc hl0 hl1
  obtain ⟨lb, hlb⟩ : ∃ l, tb.length = l := ⟨_, rfl⟩
  have hsb : lb ≤ 120 := by omega
  have HLB := Hid.mk hlb
  clear hlb hsB
  go_enter Try.func4, Try.ntmps4
  go_wp2_with fail
  refine (szSnapStepS_c a1 n1 c1 z1 _ _ HZ1.out hn1 (by omega) (by omega) (AtSl.below HA1.out B0)).mono ?_
  rintro e w1 ⟨rfl, hb1⟩
  rw [HC1.out, leftOf_yes (by omega)]
  have B_1 := B0.trans (hb1.mono B0.size)
  have zz1 : w.heap.size ≤ w1.heap.size := hb1.size
  clear hb1
  go_wp2_with fail
  refine (toInts_rep a0 n0 c0 z0 _ HZ0.out hsn0 (At.below HA0.out B_1)).mono ?_
  rintro e w2 ⟨g2, rfl, ho2, hb2⟩
  have ot0_2 := Hid.mk ho2
  clear ho2
  have B_2 := B_1.trans (hb2.mono B_1.size)
  have zz2 : w1.heap.size ≤ w2.heap.size := hb2.size
  clear B_1
  clear hb2
  go_wp2_with fail
  refine (toSnapStepS_rep a1 n1 c1 z1 _ HZ1.out hsn1 (AtSl.below HA1.out B_2)).mono ?_
  rintro e w3 ⟨g3, rfl, ho3, hb3⟩
  have ot1_3 := Hid.mk ho3
  clear ho3
  have ot0_3 := Hid.mk (RInts.ownBelow ot0_2.out hb3)
  have B_3 := B_2.trans (hb3.mono B_2.size)
  have zz3 : w2.heap.size ≤ w3.heap.size := hb3.size
  clear ot0_2 B_2
  clear hb3
  go_wp2_with fail
  refine (HS.out _ _ _ _ _ ot0_3.out ot1_3.out).mono ?_
  rintro e w4 ⟨⟨r04, m04, d04, r14, m14, d14, rb4, nb4, db4, rfl, ho4⟩, hb4⟩
  clear ot0_3
  clear ot1_3
  obtain rfl : l0 = m04 := HL0.out.symm.trans (RSnap.lens (WithB.own1 ho4)).1
  obtain rfl : l1 = m14 := HL1.out.symm.trans (RSnap.lens (WithB.own1 ho4)).2.2.1
  obtain rfl : lb = nb4 := HLB.out.symm.trans (WithB.row ho4).1
  have oo_4 := Hid.mk ho4
  clear ho4
  have B_4 := B_3.trans (hb4.mono B_3.size)
  have zz4 : w3.heap.size ≤ w4.heap.size := hb4.size
  clear B_3
  clear hb4
  obtain ⟨w5, hU5⟩ : ∃ u, u = w4.alloc (.cells #[.slice r04 l0 d04, .slice r14 l1 d14] 32) := ⟨_, rfl⟩
  have hb5 : Below w4.heap.size w4 w5 := by rw [hU5]; exact (Below.refl _ _).alloc (Nat.le_refl _) _
  have zl5 : w4.heap.size < w5.heap.size := by rw [hU5]; simp
  have nWt0 : w5.cell? ⟨w4.heap.size, 0, none⟩ = some (.slice r04 l0 d04) := by rw [hU5]; simp
  have nWt1 : w5.cell? ⟨w4.heap.size, 1, none⟩ = some (.slice r14 l1 d14) := by rw [hU5]; simp
  have oo_5 := Hid.mk (WithB.ownBelow oo_4.out hb5)
  have B_5 := B_4.trans (hb5.mono B_4.size)
  have zz5 : w4.heap.size ≤ w5.heap.size := hb5.size
  clear oo_4 B_4
  clear hb5
  have xWt0 := nWt0
  rw [hU5] at xWt0
  have xWt1 := nWt1
  rw [hU5] at xWt1
  go_wp2_with fail
  rw [← hU5]
  clear hU5
  clear xWt0 xWt1
  refine (toInts_rep a0 n0 c0 z0 _ HZ0.out hsn0 (At.below HA0.out B_5)).mono ?_
  rintro e w6 ⟨g6, rfl, ho6, hb6⟩
  have ox0_6 := Hid.mk ho6
  clear ho6
  have Wt0_6 := cell_later hb6 nWt0
  have Wt1_6 := cell_later hb6 nWt1
  have oo_6 := Hid.mk (WithB.ownBelow oo_5.out hb6)
  have B_6 := B_5.trans (hb6.mono B_5.size)
  have zz6 : w5.heap.size ≤ w6.heap.size := hb6.size
  clear nWt0 nWt1 oo_5 B_5
  clear hb6
  go_wp2_with fail
  refine (toSnapStepS_rep a1 n1 c1 z1 _ HZ1.out hsn1 (AtSl.below HA1.out B_6)).mono ?_
  rintro e w7 ⟨g7, rfl, ho7, hb7⟩
  have ox1_7 := Hid.mk ho7
  clear ho7
  have Wt0_7 := cell_later hb7 Wt0_6
  have Wt1_7 := cell_later hb7 Wt1_6
  have oo_7 := Hid.mk (WithB.ownBelow oo_6.out hb7)
  have ox0_7 := Hid.mk (RInts.ownBelow ox0_6.out hb7)
  have B_7 := B_6.trans (hb7.mono B_6.size)
  have zz7 : w6.heap.size ≤ w7.heap.size := hb7.size
  clear Wt0_6 Wt1_6 oo_6 ox0_6 B_6
  clear hb7
  go_wp2_with fail
  refine (HI.out _ _ _ _ _ ox0_7.out ox1_7.out).mono ?_
  rintro e w8 ⟨⟨r08, m08, d08, r18, m18, d18, rb8, nb8, db8, rfl, ho8⟩, hb8⟩
  obtain rfl : l0 = m08 := HL0.out.symm.trans (RSnap.lens (WithB.own1 ho8)).1
  obtain rfl : l1 = m18 := HL1.out.symm.trans (RSnap.lens (WithB.own1 ho8)).2.2.1
  obtain rfl : lb = nb8 := HLB.out.symm.trans (WithB.row ho8).1
  have og_8 := Hid.mk ho8
  clear ho8
  have Wt0_8 := cell_later hb8 Wt0_7
  have Wt1_8 := cell_later hb8 Wt1_7
  have oo_8 := Hid.mk (WithB.ownBelow oo_7.out hb8)
  have ox0_8 := Hid.mk (RInts.ownBelow ox0_7.out hb8)
  have ox1_8 := Hid.mk (RSnapSteps.ownBelow ox1_7.out hb8)
  have B_8 := B_7.trans (hb8.mono B_7.size)
  have zz8 : w7.heap.size ≤ w8.heap.size := hb8.size
  clear Wt0_7 Wt1_7 oo_7 ox0_7 ox1_7 B_7
  clear hb8
  obtain ⟨w9, hU9⟩ : ∃ u, u = w8.alloc (.cells #[.slice r08 l0 d08, .slice r18 l1 d18] 32) := ⟨_, rfl⟩
  have hb9 : Below w8.heap.size w8 w9 := by rw [hU9]; exact (Below.refl _ _).alloc (Nat.le_refl _) _
  have zl9 : w8.heap.size < w9.heap.size := by rw [hU9]; simp
  have nGt0 : w9.cell? ⟨w8.heap.size, 0, none⟩ = some (.slice r08 l0 d08) := by rw [hU9]; simp
  have nGt1 : w9.cell? ⟨w8.heap.size, 1, none⟩ = some (.slice r18 l1 d18) := by rw [hU9]; simp
  have Wt0_9 := cell_later hb9 Wt0_8
  have Wt1_9 := cell_later hb9 Wt1_8
  have oo_9 := Hid.mk (WithB.ownBelow oo_8.out hb9)
  have ox0_9 := Hid.mk (RInts.ownBelow ox0_8.out hb9)
  have ox1_9 := Hid.mk (RSnapSteps.ownBelow ox1_8.out hb9)
  have og_9 := Hid.mk (WithB.ownBelow og_8.out hb9)
  have B_9 := B_8.trans (hb9.mono B_8.size)
  have zz9 : w8.heap.size ≤ w9.heap.size := hb9.size
  clear Wt0_8 Wt1_8 oo_8 ox0_8 ox1_8 og_8 B_8
  clear hb9
  have xWt0 := Wt0_9
  rw [hU9] at xWt0
  have xWt1 := Wt1_9
  rw [hU9] at xWt1
  have xGt0 := nGt0
  rw [hU9] at xGt0
  have xGt1 := nGt1
  rw [hU9] at xGt1
  go_wp2_with fail
  rw [← hU9]
  clear hU9
  clear xWt0 xWt1 xGt0 xGt1
  refine (eqSnap_same _ l0 _ _ l1 _ _ _ _ _  t0 t1 _ HL0.out hs0 HL1.out hs1 HD1.out (RSnap.lens (WithB.own1 og_9.out)).2.1 (RSnap.lens (WithB.own1 oo_9.out)).2.1 (RSnap.lens (WithB.own1 og_9.out)).2.2.2 (RSnap.lens (WithB.own1 oo_9.out)).2.2.2).mono ?_
  rintro e w10 ⟨rfl, hb10⟩
  have Wt0_10 := cell_later hb10 Wt0_9
  have Wt1_10 := cell_later hb10 Wt1_9
  have Gt0_10 := cell_later hb10 nGt0
  have Gt1_10 := cell_later hb10 nGt1
  have oo_10 := Hid.mk (WithB.ownBelow oo_9.out hb10)
  have ox0_10 := Hid.mk (RInts.ownBelow ox0_9.out hb10)
  have ox1_10 := Hid.mk (RSnapSteps.ownBelow ox1_9.out hb10)
  have og_10 := Hid.mk (WithB.ownBelow og_9.out hb10)
  have B_10 := B_9.trans (hb10.mono B_9.size)
  have zz10 : w9.heap.size ≤ w10.heap.size := hb10.size
  clear Wt0_9 Wt1_9 nGt0 nGt1 oo_9 ox0_9 ox1_9 og_9 B_9
  clear hb10
  go_wp2_with fail
  refine (eqBoolS_same 0 0 _ _ lb _ _ tb _ (by omega) (WithB.row og_10.out).2 (WithB.row oo_10.out).2).mono ?_
  rintro e w11 ⟨rfl, hb11⟩
  have Wt0_11 := cell_later hb11 Wt0_10
  have Wt1_11 := cell_later hb11 Wt1_10
  have Gt0_11 := cell_later hb11 Gt0_10
  have Gt1_11 := cell_later hb11 Gt1_10
  have oo_11 := Hid.mk (WithB.ownBelow oo_10.out hb11)
  have ox0_11 := Hid.mk (RInts.ownBelow ox0_10.out hb11)
  have ox1_11 := Hid.mk (RSnapSteps.ownBelow ox1_10.out hb11)
  have og_11 := Hid.mk (WithB.ownBelow og_10.out hb11)
  have B_11 := B_10.trans (hb11.mono B_10.size)
  have zz11 : w10.heap.size ≤ w11.heap.size := hb11.size
  clear Wt0_10 Wt1_10 Gt0_10 Gt1_10 oo_10 ox0_10 ox1_10 og_10 B_10
  clear hb11
  go_wp2_with fail
  refine (toInts_rep a0 n0 c0 z0 _ HZ0.out hsn0 (At.below HA0.out B_11)).mono ?_
  rintro e w12 ⟨g12, rfl, ho12, hb12⟩
  have oy_12 := Hid.mk ho12
  clear ho12
  have Wt0_12 := cell_later hb12 Wt0_11
  have Wt1_12 := cell_later hb12 Wt1_11
  have Gt0_12 := cell_later hb12 Gt0_11
  have Gt1_12 := cell_later hb12 Gt1_11
  have oo_12 := Hid.mk (WithB.ownBelow oo_11.out hb12)
  have ox0_12 := Hid.mk (RInts.ownBelow ox0_11.out hb12)
  have ox1_12 := Hid.mk (RSnapSteps.ownBelow ox1_11.out hb12)
  have og_12 := Hid.mk (WithB.ownBelow og_11.out hb12)
  have B_12 := B_11.trans (hb12.mono B_11.size)
  have zz12 : w11.heap.size ≤ w12.heap.size := hb12.size
  clear Wt0_11 Wt1_11 Gt0_11 Gt1_11 oo_11 ox0_11 ox1_11 og_11 B_11
  clear hb12
  go_wp2_with fail
  refine (eqIntS_same _ _ n0 _ _ z0 _ HZ0.out hsn0 (ints_at ox0_12.out) (ints_at oy_12.out)).mono ?_
  rintro e w13 ⟨rfl, hb13⟩
  clear oy_12
  have Wt0_13 := cell_later hb13 Wt0_12
  have Wt1_13 := cell_later hb13 Wt1_12
  have Gt0_13 := cell_later hb13 Gt0_12
  have Gt1_13 := cell_later hb13 Gt1_12
  have oo_13 := Hid.mk (WithB.ownBelow oo_12.out hb13)
  have ox0_13 := Hid.mk (RInts.ownBelow ox0_12.out hb13)
  have ox1_13 := Hid.mk (RSnapSteps.ownBelow ox1_12.out hb13)
  have og_13 := Hid.mk (WithB.ownBelow og_12.out hb13)
  have B_13 := B_12.trans (hb13.mono B_12.size)
  have zz13 : w12.heap.size ≤ w13.heap.size := hb13.size
  clear Wt0_12 Wt1_12 Gt0_12 Gt1_12 oo_12 ox0_12 ox1_12 og_12 B_12
  clear hb13
  go_wp2_with fail
  refine (toSnapStepS_rep a1 n1 c1 z1 _ HZ1.out hsn1 (AtSl.below HA1.out B_13)).mono ?_
  rintro e w14 ⟨g14, rfl, ho14, hb14⟩
  have oy_14 := Hid.mk ho14
  clear ho14
  have Wt0_14 := cell_later hb14 Wt0_13
  have Wt1_14 := cell_later hb14 Wt1_13
  have Gt0_14 := cell_later hb14 Gt0_13
  have Gt1_14 := cell_later hb14 Gt1_13
  have oo_14 := Hid.mk (WithB.ownBelow oo_13.out hb14)
  have ox0_14 := Hid.mk (RInts.ownBelow ox0_13.out hb14)
  have ox1_14 := Hid.mk (RSnapSteps.ownBelow ox1_13.out hb14)
  have og_14 := Hid.mk (WithB.ownBelow og_13.out hb14)
  have B_14 := B_13.trans (hb14.mono B_13.size)
  have zz14 : w13.heap.size ≤ w14.heap.size := hb14.size
  clear Wt0_13 Wt1_13 Gt0_13 Gt1_13 oo_13 ox0_13 ox1_13 og_13 B_13
  clear hb14
  go_wp2_with fail
  refine (eqSnapStepS_same _ _ n1 _ _ z1 _ HZ1.out hsn1 (RSnapSteps.atSl ox1_14.out).2 (RSnapSteps.atSl oy_14.out).2).mono ?_
  rintro e w15 ⟨rfl, hb15⟩
  clear oy_14
  have Wt0_15 := cell_later hb15 Wt0_14
  have Wt1_15 := cell_later hb15 Wt1_14
  have Gt0_15 := cell_later hb15 Gt0_14
  have Gt1_15 := cell_later hb15 Gt1_14
  have oo_15 := Hid.mk (WithB.ownBelow oo_14.out hb15)
  have ox0_15 := Hid.mk (RInts.ownBelow ox0_14.out hb15)
  have ox1_15 := Hid.mk (RSnapSteps.ownBelow ox1_14.out hb15)
  have og_15 := Hid.mk (WithB.ownBelow og_14.out hb15)
  have B_15 := B_14.trans (hb15.mono B_14.size)
  have zz15 : w14.heap.size ≤ w15.heap.size := hb15.size
  clear Wt0_14 Wt1_14 Gt0_14 Gt1_14 oo_14 ox0_14 ox1_14 og_14 B_14
  clear hb15
  go_wp2_with fail
  refine (markInts_rep (From (w5.heap.size) (w6.heap.size)) _ n0 _ z0 _ _ hsn0 (by omega) (by omega) ox0_15.out).mono ?_
  rintro e w16 ⟨rfl, ho16, hg16⟩
  have ox0_16 := Hid.mk ho16
  clear ho16
  have Wt0_16 := hg16.cell Wt0_15 (show ¬ From (w5.heap.size) (w6.heap.size) (w4.heap.size) from fun h => by have h1 := h.1; have h2 := h.2; omega)
  have Wt1_16 := hg16.cell Wt1_15 (show ¬ From (w5.heap.size) (w6.heap.size) (w4.heap.size) from fun h => by have h1 := h.1; have h2 := h.2; omega)
  have Gt0_16 := hg16.cell Gt0_15 (show ¬ From (w5.heap.size) (w6.heap.size) (w8.heap.size) from fun h => by have h1 := h.1; have h2 := h.2; omega)
  have Gt1_16 := hg16.cell Gt1_15 (show ¬ From (w5.heap.size) (w6.heap.size) (w8.heap.size) from fun h => by have h1 := h.1; have h2 := h.2; omega)
  have oo_16 := Hid.mk (WithB.ownOff oo_15.out hg16 (fun b h1 h2 => by have h3 := h1.1; have h4 := h1.2; have h5 := h2.1; have h6 := h2.2; omega))
  have ox1_16 := Hid.mk (RSnapSteps.ownOff ox1_15.out hg16 (fun b h1 h2 => by have h3 := h1.1; have h4 := h1.2; have h5 := h2.1; have h6 := h2.2; omega))
  have og_16 := Hid.mk (WithB.ownOff og_15.out hg16 (fun b h1 h2 => by have h3 := h1.1; have h4 := h1.2; have h5 := h2.1; have h6 := h2.2; omega))
  have B_16 := B_15.trans (hg16.toBelow (by omega) B_15.size)
  have zz16 : w15.heap.size ≤ w16.heap.size := hg16.size
  clear Wt0_15 Wt1_15 Gt0_15 Gt1_15 oo_15 ox0_15 ox1_15 og_15 B_15
  clear hg16
  go_wp2_with fail
  refine (markSnapStepS_rep (From (w6.heap.size) (w7.heap.size)) _ n1 _ z1 _ _ hsn1 (by rw [HV1.out]; exact HVB1) (by omega) (by omega) ox1_16.out).mono ?_
  rintro e w17 ⟨rfl, ho17, hg17⟩
  rw [HV1.out]
  have ox1_17 := Hid.mk ho17
  clear ho17
  have Wt0_17 := hg17.cell Wt0_16 (show ¬ From (w6.heap.size) (w7.heap.size) (w4.heap.size) from fun h => by have h1 := h.1; have h2 := h.2; omega)
  have Wt1_17 := hg17.cell Wt1_16 (show ¬ From (w6.heap.size) (w7.heap.size) (w4.heap.size) from fun h => by have h1 := h.1; have h2 := h.2; omega)
  have Gt0_17 := hg17.cell Gt0_16 (show ¬ From (w6.heap.size) (w7.heap.size) (w8.heap.size) from fun h => by have h1 := h.1; have h2 := h.2; omega)
  have Gt1_17 := hg17.cell Gt1_16 (show ¬ From (w6.heap.size) (w7.heap.size) (w8.heap.size) from fun h => by have h1 := h.1; have h2 := h.2; omega)
  have oo_17 := Hid.mk (WithB.ownOff oo_16.out hg17 (fun b h1 h2 => by have h3 := h1.1; have h4 := h1.2; have h5 := h2.1; have h6 := h2.2; omega))
  have ox0_17 := Hid.mk (RInts.ownOff ox0_16.out hg17 (fun b h1 h2 => by have h3 := h1.1; have h4 := h1.2; have h5 := h2.1; have h6 := h2.2; omega))
  have og_17 := Hid.mk (WithB.ownOff og_16.out hg17 (fun b h1 h2 => by have h3 := h1.1; have h4 := h1.2; have h5 := h2.1; have h6 := h2.2; omega))
  have B_17 := B_16.trans (hg17.toBelow (by omega) B_16.size)
  have zz17 : w16.heap.size ≤ w17.heap.size := hg17.size
  clear Wt0_16 Wt1_16 Gt0_16 Gt1_16 oo_16 ox0_16 ox1_16 og_16 B_16
  clear hg17
  have kpos : ¬ (1 : Int) + (n0 : Int) + (V1 : Int) < 0 := by omega
  go_wp2_with fail
  refine (eqSnap_same _ l0 _ _ l1 _ _ _ _ _  t0 t1 _ HL0.out hs0 HL1.out hs1 HD1.out (RSnap.lens (WithB.own1 og_17.out)).2.1 (RSnap.lens (WithB.own1 oo_17.out)).2.1 (RSnap.lens (WithB.own1 og_17.out)).2.2.2 (RSnap.lens (WithB.own1 oo_17.out)).2.2.2).mono ?_
  rintro e w18 ⟨rfl, hb18⟩
  have Wt0_18 := cell_later hb18 Wt0_17
  have Wt1_18 := cell_later hb18 Wt1_17
  have Gt0_18 := cell_later hb18 Gt0_17
  have Gt1_18 := cell_later hb18 Gt1_17
  have oo_18 := Hid.mk (WithB.ownBelow oo_17.out hb18)
  have ox0_18 := Hid.mk (RInts.ownBelow ox0_17.out hb18)
  have ox1_18 := Hid.mk (RSnapSteps.ownBelow ox1_17.out hb18)
  have og_18 := Hid.mk (WithB.ownBelow og_17.out hb18)
  have B_18 := B_17.trans (hb18.mono B_17.size)
  have zz18 : w17.heap.size ≤ w18.heap.size := hb18.size
  clear Wt0_17 Wt1_17 Gt0_17 Gt1_17 oo_17 ox0_17 ox1_17 og_17 B_17
  clear hb18
  go_wp2_with fail
  refine (eqBoolS_same 0 0 _ _ lb _ _ tb _ (by omega) (WithB.row og_18.out).2 (WithB.row oo_18.out).2).mono ?_
  rintro e w19 ⟨rfl, hb19⟩
  have Wt0_19 := cell_later hb19 Wt0_18
  have Wt1_19 := cell_later hb19 Wt1_18
  have Gt0_19 := cell_later hb19 Gt0_18
  have Gt1_19 := cell_later hb19 Gt1_18
  have oo_19 := Hid.mk (WithB.ownBelow oo_18.out hb19)
  have ox0_19 := Hid.mk (RInts.ownBelow ox0_18.out hb19)
  have ox1_19 := Hid.mk (RSnapSteps.ownBelow ox1_18.out hb19)
  have og_19 := Hid.mk (WithB.ownBelow og_18.out hb19)
  have B_19 := B_18.trans (hb19.mono B_18.size)
  have zz19 : w18.heap.size ≤ w19.heap.size := hb19.size
  clear Wt0_18 Wt1_18 Gt0_18 Gt1_18 oo_18 ox0_18 ox1_18 og_18 B_18
  clear hb19
  clear ox0_19
  clear ox1_19
  obtain ⟨MF1, MF2, hmA, hmB, mf1, mf2, mfd⟩ := og_19.out
  have HMA := Hid.mk hmA
  have HMB := Hid.mk hmB
  clear hmA hmB
  go_wp2_with fail
  refine (markSnap_rep MF1 _ l0 _ _ l1 _  t0 t1 1 _ HL0.out hs0 HL1.out hs1 HD1.out hcs1 (by omega) (by omega) (fun b h => by have h2 := (mf1 b h).2; omega) HMA.out).mono ?_
  rintro e w20 ⟨rfl, ho20, hg20⟩
  rw [HVA.out]
  have og_20 := Hid.mk (show WithB RSnap _ (From (w7.heap.size) (w8.heap.size)) _ _ _ _ _ _ from ⟨MF1, MF2, ho20, HMB.out.frame (fun b h hl => hg20.block b hl (fun e => mfd b e h)), mf1, mf2, mfd⟩)
  clear ho20 HMA HMB
  have hgx20 := hg20.mono (F' := From (w7.heap.size) (w8.heap.size)) mf1
  clear hg20 mf1 mf2 mfd
  have Wt0_20 := hgx20.cell Wt0_19 (show ¬ From (w7.heap.size) (w8.heap.size) (w4.heap.size) from fun h => by have h1 := h.1; have h2 := h.2; omega)
  have Wt1_20 := hgx20.cell Wt1_19 (show ¬ From (w7.heap.size) (w8.heap.size) (w4.heap.size) from fun h => by have h1 := h.1; have h2 := h.2; omega)
  have Gt0_20 := hgx20.cell Gt0_19 (show ¬ From (w7.heap.size) (w8.heap.size) (w8.heap.size) from fun h => by have h1 := h.1; have h2 := h.2; omega)
  have Gt1_20 := hgx20.cell Gt1_19 (show ¬ From (w7.heap.size) (w8.heap.size) (w8.heap.size) from fun h => by have h1 := h.1; have h2 := h.2; omega)
  have oo_20 := Hid.mk (WithB.ownOff oo_19.out hgx20 (fun b h1 h2 => by have h3 := h1.1; have h4 := h1.2; have h5 := h2.1; have h6 := h2.2; omega))
  have B_20 := B_19.trans (hgx20.toBelow (by omega) B_19.size)
  have zz20 : w19.heap.size ≤ w20.heap.size := hgx20.size
  clear Wt0_19 Wt1_19 Gt0_19 Gt1_19 oo_19 og_19 B_19
  clear hgx20
  have gpos : ¬ (1 : Int) + (VA : Int) < 0 := by omega
  have gpos2 : ¬ (1 : Int) + (VA : Int) + (lb : Int) < 0 := by omega
  obtain ⟨MF1, MF2, hmA, hmB, mf1, mf2, mfd⟩ := og_20.out
  have HMA := Hid.mk hmA
  have HMB := Hid.mk hmB
  clear hmA hmB
  go_wp2_with fail
  refine (markBoolS_any 0 _ lb _ _ (1 + (VA : Int)) _ (by omega) (by omega) (by omega) HMB.out.2.1).mono ?_
  rintro e w21 ⟨rfl, ho21, hg21⟩
  have hgy21 := Off.grown (F := MF2) hg21 (fun b h => HMB.out.2.2 b h)
  have og_21 := Hid.mk (show WithB RSnap _ (From (w7.heap.size) (w8.heap.size)) _ _ _ _ _ (marksB (1 + (VA : Int)) lb) from ⟨MF1, MF2, RSnap.ownOff HMA.out hgy21 mfd, ⟨marksB_length _ _, ho21, HMB.out.2.2⟩, mf1, mf2, mfd⟩)
  clear ho21 HMA HMB
  have hgx21 := hgy21.mono (F' := From (w7.heap.size) (w8.heap.size)) mf2
  clear hg21 hgy21 mf1 mf2 mfd
  have Wt0_21 := hgx21.cell Wt0_20 (show ¬ From (w7.heap.size) (w8.heap.size) (w4.heap.size) from fun h => by have h1 := h.1; have h2 := h.2; omega)
  have Wt1_21 := hgx21.cell Wt1_20 (show ¬ From (w7.heap.size) (w8.heap.size) (w4.heap.size) from fun h => by have h1 := h.1; have h2 := h.2; omega)
  have Gt0_21 := hgx21.cell Gt0_20 (show ¬ From (w7.heap.size) (w8.heap.size) (w8.heap.size) from fun h => by have h1 := h.1; have h2 := h.2; omega)
  have Gt1_21 := hgx21.cell Gt1_20 (show ¬ From (w7.heap.size) (w8.heap.size) (w8.heap.size) from fun h => by have h1 := h.1; have h2 := h.2; omega)
  have oo_21 := Hid.mk (WithB.ownOff oo_20.out hgx21 (fun b h1 h2 => by have h3 := h1.1; have h4 := h1.2; have h5 := h2.1; have h6 := h2.2; omega))
  have B_21 := B_20.trans (hgx21.toBelow (by omega) B_20.size)
  have zz21 : w20.heap.size ≤ w21.heap.size := hgx21.size
  clear Wt0_20 Wt1_20 Gt0_20 Gt1_20 oo_20 og_20 B_20
  clear hgx21
  go_wp2_with fail
  refine (heldSnap_rep _ l0 _ _ l1 _  t0 t1 1 _ HL0.out hs0 HL1.out hs1 HD1.out hcs1 (by omega) (by omega) (WithB.toAt og_21.out)).mono ?_
  rintro e w22 ⟨rfl, hb22⟩
  rw [HVA.out]
  have Wt0_22 := cell_later hb22 Wt0_21
  have Wt1_22 := cell_later hb22 Wt1_21
  have Gt0_22 := cell_later hb22 Gt0_21
  have Gt1_22 := cell_later hb22 Gt1_21
  have oo_22 := Hid.mk (WithB.ownBelow oo_21.out hb22)
  have og_22 := Hid.mk (WithB.ownBelow og_21.out hb22)
  have B_22 := B_21.trans (hb22.mono B_21.size)
  have zz22 : w21.heap.size ≤ w22.heap.size := hb22.size
  clear Wt0_21 Wt1_21 Gt0_21 Gt1_21 oo_21 og_21 B_21
  clear hb22
  go_wp2_with fail
  refine (heldBoolS_any 0 _ lb _ (1 + (VA : Int)) _ (by omega) (by omega) (by omega) (WithB.row og_22.out).2).mono ?_
  rintro e w23 ⟨rfl, hb23⟩
  have Wt0_23 := cell_later hb23 Wt0_22
  have Wt1_23 := cell_later hb23 Wt1_22
  have Gt0_23 := cell_later hb23 Gt0_22
  have Gt1_23 := cell_later hb23 Gt1_22
  have oo_23 := Hid.mk (WithB.ownBelow oo_22.out hb23)
  have og_23 := Hid.mk (WithB.ownBelow og_22.out hb23)
  have B_23 := B_22.trans (hb23.mono B_22.size)
  have zz23 : w22.heap.size ≤ w23.heap.size := hb23.size
  clear Wt0_22 Wt1_22 Gt0_22 Gt1_22 oo_22 og_22 B_22
  clear hb23
  go_wp2_with fail
  refine (toInts_rep a0 n0 c0 z0 _ HZ0.out hsn0 (At.below HA0.out B_23)).mono ?_
  rintro e w24 ⟨g24, rfl, ho24, hb24⟩
  have oh0_24 := Hid.mk ho24
  clear ho24
  have Wt0_24 := cell_later hb24 Wt0_23
  have Wt1_24 := cell_later hb24 Wt1_23
  have Gt0_24 := cell_later hb24 Gt0_23
  have Gt1_24 := cell_later hb24 Gt1_23
  have oo_24 := Hid.mk (WithB.ownBelow oo_23.out hb24)
  have og_24 := Hid.mk (WithB.ownBelow og_23.out hb24)
  have B_24 := B_23.trans (hb24.mono B_23.size)
  have zz24 : w23.heap.size ≤ w24.heap.size := hb24.size
  clear Wt0_23 Wt1_23 Gt0_23 Gt1_23 oo_23 og_23 B_23
  clear hb24
  go_wp2_with fail
  refine (toSnapStepS_rep a1 n1 c1 z1 _ HZ1.out hsn1 (AtSl.below HA1.out B_24)).mono ?_
  rintro e w25 ⟨g25, rfl, ho25, hb25⟩
  have oh1_25 := Hid.mk ho25
  clear ho25
  have Wt0_25 := cell_later hb25 Wt0_24
  have Wt1_25 := cell_later hb25 Wt1_24
  have Gt0_25 := cell_later hb25 Gt0_24
  have Gt1_25 := cell_later hb25 Gt1_24
  have oo_25 := Hid.mk (WithB.ownBelow oo_24.out hb25)
  have og_25 := Hid.mk (WithB.ownBelow og_24.out hb25)
  have oh0_25 := Hid.mk (RInts.ownBelow oh0_24.out hb25)
  have B_25 := B_24.trans (hb25.mono B_24.size)
  have zz25 : w24.heap.size ≤ w25.heap.size := hb25.size
  clear Wt0_24 Wt1_24 Gt0_24 Gt1_24 oo_24 og_24 oh0_24 B_24
  clear hb25
  go_wp2_with fail
  refine (HI.out _ _ _ _ _ oh0_25.out oh1_25.out).mono ?_
  rintro e w26 ⟨⟨r026, m026, d026, r126, m126, d126, rb26, nb26, db26, rfl, ho26⟩, hb26⟩
  clear oh0_25
  clear oh1_25
  obtain rfl : l0 = m026 := HL0.out.symm.trans (RSnap.lens (WithB.own1 ho26)).1
  obtain rfl : l1 = m126 := HL1.out.symm.trans (RSnap.lens (WithB.own1 ho26)).2.2.1
  obtain rfl : lb = nb26 := HLB.out.symm.trans (WithB.row ho26).1
  have ohg_26 := Hid.mk ho26
  clear ho26
  have Wt0_26 := cell_later hb26 Wt0_25
  have Wt1_26 := cell_later hb26 Wt1_25
  have Gt0_26 := cell_later hb26 Gt0_25
  have Gt1_26 := cell_later hb26 Gt1_25
  have oo_26 := Hid.mk (WithB.ownBelow oo_25.out hb26)
  have og_26 := Hid.mk (WithB.ownBelow og_25.out hb26)
  have B_26 := B_25.trans (hb26.mono B_25.size)
  have zz26 : w25.heap.size ≤ w26.heap.size := hb26.size
  clear Wt0_25 Wt1_25 Gt0_25 Gt1_25 oo_25 og_25 B_25
  clear hb26
  obtain ⟨w27, hU27⟩ : ∃ u, u = w26.alloc (.cells #[.slice r026 l0 d026, .slice r126 l1 d126] 32) := ⟨_, rfl⟩
  have hb27 : Below w26.heap.size w26 w27 := by rw [hU27]; exact (Below.refl _ _).alloc (Nat.le_refl _) _
  have zl27 : w26.heap.size < w27.heap.size := by rw [hU27]; simp
  have nHt0 : w27.cell? ⟨w26.heap.size, 0, none⟩ = some (.slice r026 l0 d026) := by rw [hU27]; simp
  have nHt1 : w27.cell? ⟨w26.heap.size, 1, none⟩ = some (.slice r126 l1 d126) := by rw [hU27]; simp
  have Wt0_27 := cell_later hb27 Wt0_26
  have Wt1_27 := cell_later hb27 Wt1_26
  have Gt0_27 := cell_later hb27 Gt0_26
  have Gt1_27 := cell_later hb27 Gt1_26
  have oo_27 := Hid.mk (WithB.ownBelow oo_26.out hb27)
  have og_27 := Hid.mk (WithB.ownBelow og_26.out hb27)
  have ohg_27 := Hid.mk (WithB.ownBelow ohg_26.out hb27)
  have B_27 := B_26.trans (hb27.mono B_26.size)
  have zz27 : w26.heap.size ≤ w27.heap.size := hb27.size
  clear Wt0_26 Wt1_26 Gt0_26 Gt1_26 oo_26 og_26 ohg_26 B_26
  clear hb27
  have xWt0 := Wt0_27
  rw [hU27] at xWt0
  have xWt1 := Wt1_27
  rw [hU27] at xWt1
  have xGt0 := Gt0_27
  rw [hU27] at xGt0
  have xGt1 := Gt1_27
  rw [hU27] at xGt1
  have xHt0 := nHt0
  rw [hU27] at xHt0
  have xHt1 := nHt1
  rw [hU27] at xHt1
  go_wp2_with fail
  rw [← hU27]
  clear hU27
  clear xWt0 xWt1 xGt0 xGt1 xHt0 xHt1
  refine (eqSnap_same _ l0 _ _ l1 _ _ _ _ _  t0 t1 _ HL0.out hs0 HL1.out hs1 HD1.out (RSnap.lens (WithB.own1 ohg_27.out)).2.1 (RSnap.lens (WithB.own1 oo_27.out)).2.1 (RSnap.lens (WithB.own1 ohg_27.out)).2.2.2 (RSnap.lens (WithB.own1 oo_27.out)).2.2.2).mono ?_
  rintro e w28 ⟨rfl, hb28⟩
  have Wt0_28 := cell_later hb28 Wt0_27
  have Wt1_28 := cell_later hb28 Wt1_27
  have Gt0_28 := cell_later hb28 Gt0_27
  have Gt1_28 := cell_later hb28 Gt1_27
  have Ht0_28 := cell_later hb28 nHt0
  have Ht1_28 := cell_later hb28 nHt1
  have oo_28 := Hid.mk (WithB.ownBelow oo_27.out hb28)
  have og_28 := Hid.mk (WithB.ownBelow og_27.out hb28)
  have ohg_28 := Hid.mk (WithB.ownBelow ohg_27.out hb28)
  have B_28 := B_27.trans (hb28.mono B_27.size)
  have zz28 : w27.heap.size ≤ w28.heap.size := hb28.size
  clear Wt0_27 Wt1_27 Gt0_27 Gt1_27 nHt0 nHt1 oo_27 og_27 ohg_27 B_27
  clear hb28
  go_wp2_with fail
  refine (eqBoolS_same 0 0 _ _ lb _ _ tb _ (by omega) (WithB.row ohg_28.out).2 (WithB.row oo_28.out).2).mono ?_
  rintro e w29 ⟨rfl, hb29⟩
  have Wt0_29 := cell_later hb29 Wt0_28
  have Wt1_29 := cell_later hb29 Wt1_28
  have Gt0_29 := cell_later hb29 Gt0_28
  have Gt1_29 := cell_later hb29 Gt1_28
  have Ht0_29 := cell_later hb29 Ht0_28
  have Ht1_29 := cell_later hb29 Ht1_28
  have oo_29 := Hid.mk (WithB.ownBelow oo_28.out hb29)
  have og_29 := Hid.mk (WithB.ownBelow og_28.out hb29)
  have ohg_29 := Hid.mk (WithB.ownBelow ohg_28.out hb29)
  have B_29 := B_28.trans (hb29.mono B_28.size)
  have zz29 : w28.heap.size ≤ w29.heap.size := hb29.size
  clear Wt0_28 Wt1_28 Gt0_28 Gt1_28 Ht0_28 Ht1_28 oo_28 og_28 ohg_28 B_28
  clear hb29
  go_wp2_with fail
  refine (heldSnap_rep _ l0 _ _ l1 _  t0 t1 1 _ HL0.out hs0 HL1.out hs1 HD1.out hcs1 (by omega) (by omega) (WithB.toAt og_29.out)).mono ?_
  rintro e w30 ⟨rfl, hb30⟩
  rw [HVA.out]
  have Wt0_30 := cell_later hb30 Wt0_29
  have Wt1_30 := cell_later hb30 Wt1_29
  have Gt0_30 := cell_later hb30 Gt0_29
  have Gt1_30 := cell_later hb30 Gt1_29
  have Ht0_30 := cell_later hb30 Ht0_29
  have Ht1_30 := cell_later hb30 Ht1_29
  have oo_30 := Hid.mk (WithB.ownBelow oo_29.out hb30)
  have og_30 := Hid.mk (WithB.ownBelow og_29.out hb30)
  have ohg_30 := Hid.mk (WithB.ownBelow ohg_29.out hb30)
  have B_30 := B_29.trans (hb30.mono B_29.size)
  have zz30 : w29.heap.size ≤ w30.heap.size := hb30.size
  clear Wt0_29 Wt1_29 Gt0_29 Gt1_29 Ht0_29 Ht1_29 oo_29 og_29 ohg_29 B_29
  clear hb30
  go_wp2_with fail
  refine (heldBoolS_any 0 _ lb _ (1 + (VA : Int)) _ (by omega) (by omega) (by omega) (WithB.row og_30.out).2).mono ?_
  rintro e w31 ⟨rfl, hb31⟩
  have Wt0_31 := cell_later hb31 Wt0_30
  have Wt1_31 := cell_later hb31 Wt1_30
  have Gt0_31 := cell_later hb31 Gt0_30
  have Gt1_31 := cell_later hb31 Gt1_30
  have Ht0_31 := cell_later hb31 Ht0_30
  have Ht1_31 := cell_later hb31 Ht1_30
  have oo_31 := Hid.mk (WithB.ownBelow oo_30.out hb31)
  have og_31 := Hid.mk (WithB.ownBelow og_30.out hb31)
  have ohg_31 := Hid.mk (WithB.ownBelow ohg_30.out hb31)
  have B_31 := B_30.trans (hb31.mono B_30.size)
  have zz31 : w30.heap.size ≤ w31.heap.size := hb31.size
  clear Wt0_30 Wt1_30 Gt0_30 Gt1_30 Ht0_30 Ht1_30 oo_30 og_30 ohg_30 B_30
  clear hb31
  go_wp2
  go_ret
  exact ⟨rfl, B_31⟩

end Go.Proofs.Ytnfdncofobkjhaa
