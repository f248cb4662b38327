/- Several texts of one proof, in build order: WiH, SnpH, LawFinishSnap. -/
import Derived.Test.YtnfdncofobkjhaaM4
import Derived.Test.YtnfdncofobkjhaaM3
import Derived.Test.YtnfdncofobkjhaaM29
import Derived.Test.YtnfdncofobkjhaaM26
import Derived.Test.YtnfdncofobkjhaaM27
import Derived.Test.YtnfdncofobkjhaaM28

/- Contracts of the laws' sz of Wire. -/
namespace Go.Proofs.Ytnfdncofobkjhaa
open Go.RowKit

set_option maxRecDepth 100000 in
set_option maxHeartbeats 8000000 in
theorem szWire_any (a0 : Option Addr) (n0 : Nat) (c0 : Nat) (a1 : Option Addr) (n1 : Nat) (c1 : Nat) (bo2 : Bool) (x0 : List Int) (x1 : List Int) (l : Int) (w : World) (hz0 : x0.length = n0) (hn0 : n0 ≤ 9223372036854775807) (hz1 : x1.length = n1) (hn1 : n1 ≤ 9223372036854775807) (ha0 : At w a0 x0) (ha1 : At w a1 x1) (h0 : 0 ≤ l) (h1 : l ≤ 1048576) :
    Calls Try.prog 52 #[.agg #[.slice a0 n0 c0, .slice a1 n1 c1, .bool bo2], .int .i64 l] w fun e w' => e = .returned (.int .i64 (leftOf l (costWire (x0, x1, bo2)))) ∧ Below w.heap.size w w' := by
  obtain ⟨C0, hC0⟩ : ∃ C : Nat, n0 = C := ⟨_, rfl⟩
  obtain ⟨C1, hC1⟩ : ∃ C : Nat, n1 = C := ⟨_, rfl⟩
  have hv : costWire (x0, x1, bo2) = C0 + C1 := by unfold costWire; simp only; rw [hz0, hz1, hC0, hC1]
  rw [hv]
  clear hv
  have HC0 := Hid.mk hC0
  have HA0 := Hid.mk ha0
  have HZ0 := Hid.mk hz0
  clear hC0 ha0 hz0
  have HC1 := Hid.mk hC1
  have HA1 := Hid.mk ha1
  have HZ1 := Hid.mk hz1
  clear hC1 ha1 hz1
  obtain ⟨W, hW⟩ : ∃ W, W = w.alloc (.cells #[.slice a0 n0 c0, .slice a1 n1 c1, .bool bo2] 82) := ⟨_, rfl⟩
  have B0 : Below w.heap.size w W := by rw [hW]; exact (Below.refl _ _).alloc (Nat.le_refl _) _
  have p1 : W.cell? ⟨w.heap.size, 1, none⟩ = some (.slice a1 n1 c1) := by rw [hW]; simp
  go_enter Try.func52, Try.ntmps52
  go_wp2_with fail
  rw [← hW]
  clear hW
  refine (szInts_u a0 n0 c0 (l) W hn0 (by omega) (by omega)).mono ?_
  rintro e w0 ⟨rfl, hb0⟩
  rw [HC0.out]
  have B1 := B0.trans (hb0.mono B0.size)
  have p1 := cell_later hb0 p1
  by_cases k0 : l < (C0 : Int)
  · rw [leftOf_no k0]
    go_wp2
    go_ret
    exact ⟨ret_int (leftOf_no (by omega)).symm, B1⟩
  rw [leftOf_yes k0]
  have y0 : ¬ l - (C0 : Int) < 0 := by omega
  go_wp2_with fail
  refine (szInts_u a1 n1 c1 (l - (C0 : Int)) w0 hn1 (by omega) (by omega)).mono ?_
  rintro e w1 ⟨rfl, hb1⟩
  rw [HC1.out]
  have B2 := B1.trans (hb1.mono B1.size)
  by_cases k1 : l - (C0 : Int) < (C1 : Int)
  · rw [leftOf_no k1]
    go_wp2
    go_ret
    exact ⟨ret_int (leftOf_no (by omega)).symm, B2⟩
  rw [leftOf_yes k1]
  have y1 : ¬ l - (C0 : Int) - (C1 : Int) < 0 := by omega
  go_wp2
  go_ret
  exact ⟨ret_int (by rw [leftOf_yes (by omega)]; omega), B2⟩

set_option maxRecDepth 100000 in
set_option maxHeartbeats 8000000 in
theorem szWireS_any (a : Option Addr) (n c : Nat) (xs : List TWire) (l : Int) (w : World) (hz : xs.length = n) (hn : n ≤ 9223372036854775807) (h0 : 0 ≤ l) (h1 : l ≤ 1048576) (ha : AtSl RWire w a xs) :
    Calls Try.prog 29 #[.slice a n c, .int .i64 l] w fun e w' => e = .returned (.int .i64 (leftOf l (n + csumWire xs n : Nat))) ∧ Below w.heap.size w w' := by
  by_cases hb : l < n
  · have h' : l - (n : Int) < 0 := by omega
    go_enter Try.func29, Try.ntmps29
    go_wp2
    go_ret
    exact ⟨ret_int (leftOf_no (by omega)).symm, Below.refl _ _⟩
  have h' : ¬ l - (n : Int) < 0 := by omega
  by_cases hn0 : n = 0
  · subst hn0
    have ht : csumWire xs 0 = 0 := csumWire_zero xs
    go_enter Try.func29, Try.ntmps29
    go_wp2
    refine wp_loop_rounds 1 ?_
    rw [rounds_succ]
    go_wp2
    go_ret
    exact ⟨ret_int (by rw [ht, leftOf_yes (by omega)]; omega), Below.refl _ _⟩
  · go_enter Try.func29, Try.ntmps29
    go_wp2
    go_loopw [1, 5] (fun q i wr => ∃ (k : Nat) (r : Int), k ≤ n ∧ i = .int .i64 k ∧ q = .int .i64 r ∧ 0 ≤ r ∧ r ≤ 1048576 ∧ r + csumWire xs k = l - n ∧ Below w.heap.size w wr) (fun _ i _ => n - (intOf i).toNat)
    case atStart => exact ⟨0, l - n, Nat.zero_le _, rfl, rfl, by omega, by omega, by rw [csumWire_zero]; omega, Below.refl _ _⟩
    case round =>
      obtain ⟨k, r, hk, rfl, rfl, hr0, hr1, hr, hbw⟩ := hrel
      by_cases hlt : k < n
      · obtain ⟨b, off, rfl, _, hc⟩ := RWire.row (AtSl.below ha hbw) (by omega)
        obtain ⟨⟨x0, x1, bo2⟩, hx⟩ : ∃ x, xs[k]? = some x := ⟨_, List.getElem?_eq_getElem (by omega)⟩
        obtain ⟨a0, n0, c0, a1, n1, c1, g0, g1, g2, ⟨hv0, hu0, hw0, _⟩, ⟨hv1, hu1, hw1, _⟩⟩ := hc k _ hx
        have hts := csumWire_succ hx
        have htm := csumWire_mono xs (k + 1) n (by omega)
        obtain ⟨V, hV⟩ : ∃ V : Nat, costWire (x0, x1, bo2) = V := ⟨_, rfl⟩
        rw [hV] at hts
        have HV := Hid.mk hV
        have HR := Hid.mk hr
        have HT := Hid.mk hts
        have HM := Hid.mk htm
        have HX0 := Hid.mk (And.intro hv0 hw0)
        have HX1 := Hid.mk (And.intro hv1 hw1)
        have hki : (k : Int) < (n : Int) := by omega
        clear hc hr hts ha htm hx hV hv0 hw0 hv1 hw1
        by_cases hfit : r < (V : Int)
        · go_wp2_with fail
          refine (szWire_any a0 n0 c0 a1 n1 c1 bo2 x0 x1 r wr HX0.out.1 hu0 HX1.out.1 hu1 HX0.out.2 HX1.out.2 hr0 hr1).mono ?_
          rintro e w' ⟨rfl, hb'⟩
          rw [HV.out, leftOf_no hfit]
          go_wp2
          go_ret
          exact ⟨ret_int (leftOf_no (by have := HR.out; have := HT.out; have := HM.out; omega)).symm, hbw.trans (hb'.mono hbw.size)⟩
        · have hd : ¬ r - (V : Int) < 0 := by omega
          go_wp2_with fail
          refine (szWire_any a0 n0 c0 a1 n1 c1 bo2 x0 x1 r wr HX0.out.1 hu0 HX1.out.1 hu1 HX0.out.2 HX1.out.2 hr0 hr1).mono ?_
          rintro e w' ⟨rfl, hb'⟩
          rw [HV.out, leftOf_yes (by omega)]
          go_wp2
          go_roundw
          case rel => exact ⟨k + 1, r - V, by omega, by go_num, rfl, by omega, by omega, by have := HR.out; have := HT.out; omega, hbw.trans (hb'.mono hbw.size)⟩
          case measure => simp [intOf]; omega
      · obtain rfl : k = n := by omega
        have HR := Hid.mk hr
        clear hr
        go_wp2
        go_ret
        exact ⟨ret_int (by have := HR.out; rw [leftOf_yes (by omega)]; omega), hbw⟩

end Go.Proofs.Ytnfdncofobkjhaa

/- Contracts of the laws' sz of Snap. -/
namespace Go.Proofs.Ytnfdncofobkjhaa
open Go.RowKit

set_option maxRecDepth 100000 in
set_option maxHeartbeats 8000000 in
theorem szSnap_any (a0 : Option Addr) (n0 : Nat) (c0 : Nat) (a1 : Option Addr) (n1 : Nat) (c1 : Nat)  (x0 : List TProc) (x1 : List TWire) (l : Int) (w : World) (hz0 : x0.length = n0) (hn0 : n0 ≤ 9223372036854775807) (hz1 : x1.length = n1) (hn1 : n1 ≤ 9223372036854775807) (ha0 : AtSl RProc w a0 x0) (ha1 : AtSl RWire w a1 x1) (h0 : 0 ≤ l) (h1 : l ≤ 1048576) :
    Calls Try.prog 6 #[.agg #[.slice a0 n0 c0, .slice a1 n1 c1], .int .i64 l] w fun e w' => e = .returned (.int .i64 (leftOf l (costSnap (x0, x1)))) ∧ Below w.heap.size w w' := by
  obtain ⟨C0, hC0⟩ : ∃ C : Nat, n0 = C := ⟨_, rfl⟩
  obtain ⟨C1, hC1⟩ : ∃ C : Nat, (n1 + csumWire x1 n1) = C := ⟨_, rfl⟩
  have hv : costSnap (x0, x1) = C0 + C1 := by unfold costSnap; simp only; rw [hz0, hz1, hC0, hC1]
  rw [hv]
  clear hv
  have HC0 := Hid.mk hC0
  have HA0 := Hid.mk ha0
  have HZ0 := Hid.mk hz0
  clear hC0 ha0 hz0
  have HC1 := Hid.mk hC1
  have HA1 := Hid.mk ha1
  have HZ1 := Hid.mk hz1
  clear hC1 ha1 hz1
  obtain ⟨W, hW⟩ : ∃ W, W = w.alloc (.cells #[.slice a0 n0 c0, .slice a1 n1 c1] 25) := ⟨_, rfl⟩
  have B0 : Below w.heap.size w W := by rw [hW]; exact (Below.refl _ _).alloc (Nat.le_refl _) _
  have p1 : W.cell? ⟨w.heap.size, 1, none⟩ = some (.slice a1 n1 c1) := by rw [hW]; simp
  go_enter Try.func6, Try.ntmps6
  go_wp2_with fail
  rw [← hW]
  clear hW
  refine (szProcS_any a0 n0 c0 x0 (l) W HZ0.out hn0 (by omega) (by omega) (AtSl.below HA0.out B0)).mono ?_
  rintro e w0 ⟨rfl, hb0⟩
  rw [HC0.out]
  have B1 := B0.trans (hb0.mono B0.size)
  have p1 := cell_later hb0 p1
  by_cases k0 : l < (C0 : Int)
  · rw [leftOf_no k0]
    go_wp2
    go_ret
    exact ⟨ret_int (leftOf_no (by omega)).symm, B1⟩
  rw [leftOf_yes k0]
  have y0 : ¬ l - (C0 : Int) < 0 := by omega
  go_wp2_with fail
  refine (szWireS_any a1 n1 c1 x1 (l - (C0 : Int)) w0 HZ1.out hn1 (by omega) (by omega) (AtSl.below HA1.out B1)).mono ?_
  rintro e w1 ⟨rfl, hb1⟩
  rw [HC1.out]
  have B2 := B1.trans (hb1.mono B1.size)
  by_cases k1 : l - (C0 : Int) < (C1 : Int)
  · rw [leftOf_no k1]
    go_wp2
    go_ret
    exact ⟨ret_int (leftOf_no (by omega)).symm, B2⟩
  rw [leftOf_yes k1]
  have y1 : ¬ l - (C0 : Int) - (C1 : Int) < 0 := by omega
  go_wp2
  go_ret
  exact ⟨ret_int (by rw [leftOf_yes (by omega)]; omega), B2⟩


end Go.Proofs.Ytnfdncofobkjhaa

/- The law FnExactFinishSnap returns true at every input, and writes nothing that was there. -/
namespace Go.Proofs.Ytnfdncofobkjhaa
open Go.RowKit

set_option maxRecDepth 100000 in
set_option maxHeartbeats 16000000 in
theorem lawFinishSnap (sa0_0 : Option Addr) (sn0_0 sc0_0 : Nat) (sa1_0 : Option Addr) (sn1_0 sc1_0 : Nat)  (sx0_0 : List TProc) (sx1_0 : List TWire) (w : World) (ha0 : RSnap.At w [.slice sa0_0 sn0_0 sc0_0, .slice sa1_0 sn1_0 sc1_0] (sx0_0, sx1_0)) :
    Calls Try.prog 5 #[.agg #[.slice sa0_0 sn0_0 sc0_0, .slice sa1_0 sn1_0 sc1_0]] w fun e w' => e = .returned (.bool true) ∧ Below w.heap.size w w' := by
  obtain ⟨⟨k0_0, kb0_0, kc0_0, _⟩, ⟨k1_0, kb1_0, kc1_0, _⟩⟩ := RSnap.at_iff ha0
  have HA0 := Hid.mk (And.intro kc0_0 (kc1_0))
  have HZ0 : Hid (sx0_0.length = sn0_0 ∧ sx1_0.length = sn1_0) := Hid.mk ⟨k0_0, k1_0⟩
  clear ha0 k0_0 kc0_0 k1_0 kc1_0
  obtain ⟨W, hW⟩ : ∃ W, W = w.alloc (.cells #[.slice sa0_0 sn0_0 sc0_0, .slice sa1_0 sn1_0 sc1_0] 25) := ⟨_, rfl⟩
  have B0 : Below w.heap.size w W := by rw [hW]; exact (Below.refl _ _).alloc (Nat.le_refl _) _
  have zW : w.heap.size < W.heap.size := by rw [hW]; simp
  have p00_0 : W.cell? ⟨w.heap.size, 0, none⟩ = some (.slice sa0_0 sn0_0 sc0_0) := by rw [hW]; simp
  have p01_0 : W.cell? ⟨w.heap.size, 1, none⟩ = some (.slice sa1_0 sn1_0 sc1_0) := by rw [hW]; simp
  obtain ⟨C0, hC0⟩ : ∃ C : Nat, costSnap (sx0_0, sx1_0) = C := ⟨_, rfl⟩
  have HC0 := Hid.mk hC0
  clear hC0
  by_cases big0 : (1048576 : Int) < (C0 : Int)
  · go_enter Try.func5, Try.ntmps5
    go_wp2_with fail
    rw [← hW]
    clear hW
    refine (szSnap_any sa0_0 sn0_0 sc0_0 sa1_0 sn1_0 sc1_0  sx0_0 sx1_0 _ _ HZ0.out.1 kb0_0 HZ0.out.2 kb1_0 (AtSl.below HA0.out.1 B0) (AtSl.below HA0.out.2 B0) (by omega) (by omega)).mono ?_
    rintro e v0 ⟨rfl, hv0⟩
    rw [HC0.out, leftOf_no big0]
    have y0 := B0.trans (hv0.mono B0.size)
    go_wp2
    go_ret
    exact ⟨rfl, y0⟩
  have hl0 : ¬ (1048576 : Int) - (C0 : Int) < 0 := by omega
  have HSM0 := Hid.mk (smallSnap HZ0.out.1 HZ0.out.2 (by have q := HC0.out; omega : costSnap (sx0_0, sx1_0) ≤ 1048576))
  have sh0_0 : sn0_0 ≤ 1048576 := HSM0.out.1
  have sh1_0 : sn1_0 ≤ 1048576 := HSM0.out.2.1
  have HDD1_0 := Hid.mk HSM0.out.2.2
  have HCC0 : Hid (sn0_0 + (sn1_0 + csumWire sx1_0 sn1_0) ≤ 1048576) := Hid.mk (by have q := HC0.out; unfold costSnap at q; simp only [HZ0.out.1, HZ0.out.2] at q; omega)
  have HVB0 : mknSnap (sx0_0, sx1_0) ≤ 8388608 := by
    have q := HCC0.out
    unfold mknSnap
    simp only [HZ0.out.1, HZ0.out.2]
    rw [msumProc_eq sx0_0 sn0_0 (by have q2 := HZ0.out.1; omega), msumWire_eq sx1_0 sn1_0 (by have q2 := HZ0.out.2; omega)]
    omega
  have hcs1_0 : csumWire sx1_0 sn1_0 ≤ 1048576 := by have q := HCC0.out; omega
  obtain ⟨V0, hV0⟩ : ∃ V : Nat, mknSnap (sx0_0, sx1_0) = V := ⟨_, rfl⟩
  rw [hV0] at HVB0
  have HV0 := Hid.mk hV0
  clear hV0
  obtain ⟨v0, v1, t0, t1, hsA, HS, HI⟩ : ∃ (v0 : Int) (v1 : Bool) (t0 : List TProc) (t1 : List TWire), costSnap (t0, t1) ≤ 1048576 ∧ Hid (∀ (sp0_0 sp1_0 : Nat) (w : World) (F0 : Nat → Prop), RSnap.Own w F0 [.slice (some ⟨sp0_0, 0, none⟩) sn0_0 sn0_0, .slice (some ⟨sp1_0, 0, none⟩) sn1_0 sn1_0] (sx0_0, sx1_0) → Calls Try.prog 26 #[.agg #[.slice (some ⟨sp0_0, 0, none⟩) sn0_0 sn0_0, .slice (some ⟨sp1_0, 0, none⟩) sn1_0 sn1_0]] w fun e w' => FzRet e w' w.heap.size v0 v1 (t0, t1) ∧ Below w.heap.size w w') ∧ Hid (∀ (sp0_0 sp1_0 : Nat) (w : World) (F0 : Nat → Prop), RSnap.Own w F0 [.slice (some ⟨sp0_0, 0, none⟩) sn0_0 sn0_0, .slice (some ⟨sp1_0, 0, none⟩) sn1_0 sn1_0] (sx0_0, sx1_0) → Calls Try.prog 27 #[.agg #[.slice (some ⟨sp0_0, 0, none⟩) sn0_0 sn0_0, .slice (some ⟨sp1_0, 0, none⟩) sn1_0 sn1_0]] w fun e w' => FzRet e w' w.heap.size v0 v1 (t0, t1) ∧ Below w.heap.size w w') := ⟨fzN (sx0_0, sx1_0), fzOk (sx0_0, sx1_0), (fzZ (sx0_0, sx1_0)).1, (fzZ (sx0_0, sx1_0)).2, fz_small (sx0_0, sx1_0), fun sp0_0 sp1_0 w F0 o0 => specFinishSnap (some ⟨sp0_0, 0, none⟩) sn0_0 sn0_0 (some ⟨sp1_0, 0, none⟩) sn1_0 sn1_0 sx0_0 sx1_0 w HZ0.out.1 HZ0.out.2 sh0_0 sh1_0 HDD1_0.out (RSnap.lens o0).2.1 (RSnap.lens o0).2.2.2, fun sp0_0 sp1_0 w F0 o0 => implFinishSnap (some ⟨sp0_0, 0, none⟩) sn0_0 sn0_0 (some ⟨sp1_0, 0, none⟩) sn1_0 sn1_0 sx0_0 sx1_0 w HZ0.out.1 HZ0.out.2 sh0_0 sh1_0 HDD1_0.out (RSnap.lens o0).2.1 (RSnap.lens o0).2.2.2⟩
  obtain ⟨l0, hl0⟩ : ∃ l, t0.length = l := ⟨_, rfl⟩
  obtain ⟨l1, hl1⟩ : ∃ l, t1.length = l := ⟨_, rfl⟩
  have hsm := smallSnap hl0 hl1 (by omega : costSnap (t0, t1) ≤ 1048576)
  have hs0 : l0 ≤ 1048576 := hsm.1
  have hs1 : l1 ≤ 1048576 := hsm.2.1
  have HD1 := Hid.mk hsm.2.2
  have hcc : l0 + (l1 + csumWire t1 l1) ≤ 1048576 := by unfold costSnap at hsA; simp only [hl0, hl1] at hsA; omega
  have hcs1 : csumWire t1 l1 ≤ 1048576 := by omega
  obtain ⟨VA, hVA⟩ : ∃ V : Nat, mknSnap (t0, t1) = V := ⟨_, rfl⟩
  have hvA : VA ≤ 8388608 := by
    rw [← hVA]
    unfold mknSnap
    simp only [hl0, hl1]
    rw [msumProc_eq t0 l0 (by omega), msumWire_eq t1 l1 (by omega)]
    omega
  have HVA := Hid.mk hVA
  have HL0 := Hid.mk hl0
  have HL1 := Hid.mk hl1
  clear hVA hsA hsm hcc hl0 hl1
  go_enter Try.func5, Try.ntmps5
  go_wp2_with fail
  rw [← hW]
  clear hW
  refine (szSnap_any sa0_0 sn0_0 sc0_0 sa1_0 sn1_0 sc1_0  sx0_0 sx1_0 _ _ HZ0.out.1 kb0_0 HZ0.out.2 kb1_0 (AtSl.below HA0.out.1 B0) (AtSl.below HA0.out.2 B0) (by omega) (by omega)).mono ?_
  rintro e w1 ⟨rfl, hb1⟩
  rw [HC0.out, leftOf_yes (by omega)]
  have p00_1 := cell_later hb1 p00_0
  have p01_1 := cell_later hb1 p01_0
  have B_1 := B0.trans (hb1.mono B0.size)
  have zz1 : W.heap.size ≤ w1.heap.size := hb1.size
  clear p00_0 p01_0
  clear hb1
  go_wp2_with fail
  refine (toSnap_rep sa0_0 sn0_0 sc0_0 sa1_0 sn1_0 sc1_0  sx0_0 sx1_0 _ HZ0.out.1 sh0_0 HZ0.out.2 sh1_0 HDD1_0.out (AtSl.below HA0.out.1 B_1) (AtSl.below HA0.out.2 B_1)).mono ?_
  rintro e w2 ⟨g2_0, g2_1, rfl, ho2, hb2⟩
  have ot0_2 := Hid.mk ho2
  clear ho2
  have p00_2 := cell_later hb2 p00_1
  have p01_2 := cell_later hb2 p01_1
  have B_2 := B_1.trans (hb2.mono B_1.size)
  have zz2 : w1.heap.size ≤ w2.heap.size := hb2.size
  clear p00_1 p01_1 B_1
  clear hb2
  go_wp2_with fail
  refine (HS.out _ _ _ _ ot0_2.out).mono ?_
  rintro e w3 ⟨⟨r03, m03, d03, r13, m13, d13, rfl, ho3⟩, hb3⟩
  clear ot0_2
  obtain rfl : l0 = m03 := HL0.out.symm.trans (RSnap.lens ho3).1
  obtain rfl : l1 = m13 := HL1.out.symm.trans (RSnap.lens ho3).2.2.1
  have oo_3 := Hid.mk ho3
  clear ho3
  have p00_3 := cell_later hb3 p00_2
  have p01_3 := cell_later hb3 p01_2
  have B_3 := B_2.trans (hb3.mono B_2.size)
  have zz3 : w2.heap.size ≤ w3.heap.size := hb3.size
  clear p00_2 p01_2 B_2
  clear hb3
  obtain ⟨w4, hU4⟩ : ∃ u, u = w3.alloc (.cells #[.slice r03 l0 d03, .slice r13 l1 d13] 32) := ⟨_, rfl⟩
  have hb4 : Below w3.heap.size w3 w4 := by rw [hU4]; exact (Below.refl _ _).alloc (Nat.le_refl _) _
  have zl4 : w3.heap.size < w4.heap.size := by rw [hU4]; simp
  have nWt0 : w4.cell? ⟨w3.heap.size, 0, none⟩ = some (.slice r03 l0 d03) := by rw [hU4]; simp
  have nWt1 : w4.cell? ⟨w3.heap.size, 1, none⟩ = some (.slice r13 l1 d13) := by rw [hU4]; simp
  have p00_4 := cell_later hb4 p00_3
  have p01_4 := cell_later hb4 p01_3
  have oo_4 := Hid.mk (RSnap.ownBelow oo_3.out hb4)
  have B_4 := B_3.trans (hb4.mono B_3.size)
  have zz4 : w3.heap.size ≤ w4.heap.size := hb4.size
  clear p00_3 p01_3 oo_3 B_3
  clear hb4
  have xp00 := p00_4
  rw [hU4] at xp00
  have xp01 := p01_4
  rw [hU4] at xp01
  have xWt0 := nWt0
  rw [hU4] at xWt0
  have xWt1 := nWt1
  rw [hU4] at xWt1
  go_wp2_with fail
  rw [← hU4]
  clear hU4
  clear xp00 xp01 xWt0 xWt1
  refine (toSnap_rep sa0_0 sn0_0 sc0_0 sa1_0 sn1_0 sc1_0  sx0_0 sx1_0 _ HZ0.out.1 sh0_0 HZ0.out.2 sh1_0 HDD1_0.out (AtSl.below HA0.out.1 B_4) (AtSl.below HA0.out.2 B_4)).mono ?_
  rintro e w5 ⟨g5_0, g5_1, rfl, ho5, hb5⟩
  have ox0_5 := Hid.mk ho5
  clear ho5
  have p00_5 := cell_later hb5 p00_4
  have p01_5 := cell_later hb5 p01_4
  have Wt0_5 := cell_later hb5 nWt0
  have Wt1_5 := cell_later hb5 nWt1
  have oo_5 := Hid.mk (RSnap.ownBelow oo_4.out hb5)
  have B_5 := B_4.trans (hb5.mono B_4.size)
  have zz5 : w4.heap.size ≤ w5.heap.size := hb5.size
  clear p00_4 p01_4 nWt0 nWt1 oo_4 B_4
  clear hb5
  obtain ⟨w6, hU6⟩ : ∃ u, u = w5.alloc (.cells #[.slice (some ⟨g5_0, 0, none⟩) sn0_0 sn0_0, .slice (some ⟨g5_1, 0, none⟩) sn1_0 sn1_0] 32) := ⟨_, rfl⟩
  have hb6 : Below w5.heap.size w5 w6 := by rw [hU6]; exact (Below.refl _ _).alloc (Nat.le_refl _) _
  have zl6 : w5.heap.size < w6.heap.size := by rw [hU6]; simp
  have nX00 : w6.cell? ⟨w5.heap.size, 0, none⟩ = some (.slice (some ⟨g5_0, 0, none⟩) sn0_0 sn0_0) := by rw [hU6]; simp
  have nX01 : w6.cell? ⟨w5.heap.size, 1, none⟩ = some (.slice (some ⟨g5_1, 0, none⟩) sn1_0 sn1_0) := by rw [hU6]; simp
  have p00_6 := cell_later hb6 p00_5
  have p01_6 := cell_later hb6 p01_5
  have Wt0_6 := cell_later hb6 Wt0_5
  have Wt1_6 := cell_later hb6 Wt1_5
  have oo_6 := Hid.mk (RSnap.ownBelow oo_5.out hb6)
  have ox0_6 := Hid.mk (RSnap.ownBelow ox0_5.out hb6)
  have B_6 := B_5.trans (hb6.mono B_5.size)
  have zz6 : w5.heap.size ≤ w6.heap.size := hb6.size
  clear p00_5 p01_5 Wt0_5 Wt1_5 oo_5 ox0_5 B_5
  clear hb6
  have xp00 := p00_6
  rw [hU6] at xp00
  have xp01 := p01_6
  rw [hU6] at xp01
  have xWt0 := Wt0_6
  rw [hU6] at xWt0
  have xWt1 := Wt1_6
  rw [hU6] at xWt1
  have xX00 := nX00
  rw [hU6] at xX00
  have xX01 := nX01
  rw [hU6] at xX01
  go_wp2_with fail
  rw [← hU6]
  clear hU6
  clear xp00 xp01 xWt0 xWt1 xX00 xX01
  refine (HI.out _ _ _ _ ox0_6.out).mono ?_
  rintro e w7 ⟨⟨r07, m07, d07, r17, m17, d17, rfl, ho7⟩, hb7⟩
  obtain rfl : l0 = m07 := HL0.out.symm.trans (RSnap.lens ho7).1
  obtain rfl : l1 = m17 := HL1.out.symm.trans (RSnap.lens ho7).2.2.1
  have og_7 := Hid.mk ho7
  clear ho7
  have p00_7 := cell_later hb7 p00_6
  have p01_7 := cell_later hb7 p01_6
  have Wt0_7 := cell_later hb7 Wt0_6
  have Wt1_7 := cell_later hb7 Wt1_6
  have X00_7 := cell_later hb7 nX00
  have X01_7 := cell_later hb7 nX01
  have oo_7 := Hid.mk (RSnap.ownBelow oo_6.out hb7)
  have ox0_7 := Hid.mk (RSnap.ownBelow ox0_6.out hb7)
  have B_7 := B_6.trans (hb7.mono B_6.size)
  have zz7 : w6.heap.size ≤ w7.heap.size := hb7.size
  clear p00_6 p01_6 Wt0_6 Wt1_6 nX00 nX01 oo_6 ox0_6 B_6
  clear hb7
  obtain ⟨w8, hU8⟩ : ∃ u, u = w7.alloc (.cells #[.slice r07 l0 d07, .slice r17 l1 d17] 32) := ⟨_, rfl⟩
  have hb8 : Below w7.heap.size w7 w8 := by rw [hU8]; exact (Below.refl _ _).alloc (Nat.le_refl _) _
  have zl8 : w7.heap.size < w8.heap.size := by rw [hU8]; simp
  have nGt0 : w8.cell? ⟨w7.heap.size, 0, none⟩ = some (.slice r07 l0 d07) := by rw [hU8]; simp
  have nGt1 : w8.cell? ⟨w7.heap.size, 1, none⟩ = some (.slice r17 l1 d17) := by rw [hU8]; simp
  have p00_8 := cell_later hb8 p00_7
  have p01_8 := cell_later hb8 p01_7
  have Wt0_8 := cell_later hb8 Wt0_7
  have Wt1_8 := cell_later hb8 Wt1_7
  have X00_8 := cell_later hb8 X00_7
  have X01_8 := cell_later hb8 X01_7
  have oo_8 := Hid.mk (RSnap.ownBelow oo_7.out hb8)
  have ox0_8 := Hid.mk (RSnap.ownBelow ox0_7.out hb8)
  have og_8 := Hid.mk (RSnap.ownBelow og_7.out hb8)
  have B_8 := B_7.trans (hb8.mono B_7.size)
  have zz8 : w7.heap.size ≤ w8.heap.size := hb8.size
  clear p00_7 p01_7 Wt0_7 Wt1_7 X00_7 X01_7 oo_7 ox0_7 og_7 B_7
  clear hb8
  have xp00 := p00_8
  rw [hU8] at xp00
  have xp01 := p01_8
  rw [hU8] at xp01
  have xWt0 := Wt0_8
  rw [hU8] at xWt0
  have xWt1 := Wt1_8
  rw [hU8] at xWt1
  have xX00 := X00_8
  rw [hU8] at xX00
  have xX01 := X01_8
  rw [hU8] at xX01
  have xGt0 := nGt0
  rw [hU8] at xGt0
  have xGt1 := nGt1
  rw [hU8] at xGt1
  go_wp2_with fail
  rw [← hU8]
  clear hU8
  clear xp00 xp01 xWt0 xWt1 xX00 xX01 xGt0 xGt1
  refine (eqSnap_same _ l0 _ _ l1 _ _ _ _ _  t0 t1 _ HL0.out hs0 HL1.out hs1 HD1.out (RSnap.lens og_8.out).2.1 (RSnap.lens oo_8.out).2.1 (RSnap.lens og_8.out).2.2.2 (RSnap.lens oo_8.out).2.2.2).mono ?_
  rintro e w9 ⟨rfl, hb9⟩
  have p00_9 := cell_later hb9 p00_8
  have p01_9 := cell_later hb9 p01_8
  have Wt0_9 := cell_later hb9 Wt0_8
  have Wt1_9 := cell_later hb9 Wt1_8
  have X00_9 := cell_later hb9 X00_8
  have X01_9 := cell_later hb9 X01_8
  have Gt0_9 := cell_later hb9 nGt0
  have Gt1_9 := cell_later hb9 nGt1
  have oo_9 := Hid.mk (RSnap.ownBelow oo_8.out hb9)
  have ox0_9 := Hid.mk (RSnap.ownBelow ox0_8.out hb9)
  have og_9 := Hid.mk (RSnap.ownBelow og_8.out hb9)
  have B_9 := B_8.trans (hb9.mono B_8.size)
  have zz9 : w8.heap.size ≤ w9.heap.size := hb9.size
  clear p00_8 p01_8 Wt0_8 Wt1_8 X00_8 X01_8 nGt0 nGt1 oo_8 ox0_8 og_8 B_8
  clear hb9
  go_wp2_with fail
  refine wp_region_held_drew (S := fun w' => w'.cell? ⟨w5.heap.size, 0, none⟩ = some (.slice (some ⟨g5_0, 0, none⟩) sn0_0 sn0_0) ∧ w'.cell? ⟨w5.heap.size, 1, none⟩ = some (.slice (some ⟨g5_1, 0, none⟩) sn1_0 sn1_0) ∧ w'.cell? ⟨w.heap.size, 0, none⟩ = some (.slice sa0_0 sn0_0 sc0_0) ∧ w'.cell? ⟨w.heap.size, 1, none⟩ = some (.slice sa1_0 sn1_0 sc1_0)) (by kernel_rfl) ?_ (fun hHeld => ?_)
  · (try dsimp only)
    exact ⟨X00_9, X01_9, p00_9, p01_9⟩
  refine tk 0 ?_
  refine tk 1 ?_
  refine wpAnyH_ready (rs := [2]) (by kernel_rfl) (by simp) ?_
  refine AllReadyH.cons (o := ?_) ?_ (fun K hK => ?_) AllReadyH.nil
  rotate_left
  · (simp only [List.getElem?_toArray, List.getElem?_cons_zero, List.getElem?_cons_succ]; rfl)
  go_simp
  go_at_call 8
  refine (toSnap_rep sa0_0 sn0_0 sc0_0 sa1_0 sn1_0 sc1_0  sx0_0 sx1_0 _ HZ0.out.1 sh0_0 HZ0.out.2 sh1_0 HDD1_0.out (AtSl.below HA0.out.1 B_9.drew) (AtSl.below HA0.out.2 B_9.drew)).mono ?_
  rintro e w10 ⟨g10_0, g10_1, rfl, ho10, hd10⟩
  have hb10 : Below w9.heap.size w9 w10 := (Below.refl _ _).drew.trans hd10
  clear hd10
  have oy_10 := Hid.mk ho10
  clear ho10
  have p00_10 := cell_later hb10 p00_9
  have p01_10 := cell_later hb10 p01_9
  have Wt0_10 := cell_later hb10 Wt0_9
  have Wt1_10 := cell_later hb10 Wt1_9
  have X00_10 := cell_later hb10 X00_9
  have X01_10 := cell_later hb10 X01_9
  have Gt0_10 := cell_later hb10 Gt0_9
  have Gt1_10 := cell_later hb10 Gt1_9
  have oo_10 := Hid.mk (RSnap.ownBelow oo_9.out hb10)
  have ox0_10 := Hid.mk (RSnap.ownBelow ox0_9.out hb10)
  have og_10 := Hid.mk (RSnap.ownBelow og_9.out hb10)
  have B_10 := B_9.trans (hb10.mono B_9.size)
  have zz10 : w9.heap.size ≤ w10.heap.size := hb10.size
  clear p00_9 p01_9 Wt0_9 Wt1_9 X00_9 X01_9 Gt0_9 Gt1_9 oo_9 ox0_9 og_9 B_9
  clear hb10
  (try go_wp2_with fail)
  refine hK.out _ _ ?_ (fun hHeld' => ?_)
  · (try dsimp only)
    exact ⟨X00_10, X01_10, p00_10, p01_10⟩
  clear hK K hHeld
  have hHeld := hHeld'
  clear hHeld'
  (try simp only [Act.put, List.setIfInBounds_toArray, List.set_cons_zero, List.set_cons_succ])
  refine wpAnyH_ready (rs := [3]) (by kernel_rfl) (by simp) ?_
  refine AllReadyH.cons (o := ?_) ?_ (fun K hK => ?_) AllReadyH.nil
  rotate_left
  · (simp only [List.getElem?_toArray, List.getElem?_cons_zero, List.getElem?_cons_succ]; rfl)
  go_simp
  go_at_call 11
  refine (eqSnap_same _ sn0_0 _ _ sn1_0 _ _ _ _ _  sx0_0 sx1_0 _ HZ0.out.1 sh0_0 HZ0.out.2 sh1_0 HDD1_0.out (RSnap.lens ox0_10.out).2.1 (RSnap.lens oy_10.out).2.1 (RSnap.lens ox0_10.out).2.2.2 (RSnap.lens oy_10.out).2.2.2).mono ?_
  rintro e w11 ⟨rfl, hb11⟩
  clear oy_10
  have p00_11 := cell_later hb11 p00_10
  have p01_11 := cell_later hb11 p01_10
  have Wt0_11 := cell_later hb11 Wt0_10
  have Wt1_11 := cell_later hb11 Wt1_10
  have X00_11 := cell_later hb11 X00_10
  have X01_11 := cell_later hb11 X01_10
  have Gt0_11 := cell_later hb11 Gt0_10
  have Gt1_11 := cell_later hb11 Gt1_10
  have oo_11 := Hid.mk (RSnap.ownBelow oo_10.out hb11)
  have ox0_11 := Hid.mk (RSnap.ownBelow ox0_10.out hb11)
  have og_11 := Hid.mk (RSnap.ownBelow og_10.out hb11)
  have B_11 := B_10.trans (hb11.mono B_10.size)
  have zz11 : w10.heap.size ≤ w11.heap.size := hb11.size
  clear p00_10 p01_10 Wt0_10 Wt1_10 X00_10 X01_10 Gt0_10 Gt1_10 oo_10 ox0_10 og_10 B_10
  clear hb11
  (try go_wp2_with fail)
  refine hK.out _ _ ?_ (fun hHeld' => ?_)
  · (try dsimp only)
    exact ⟨X00_11, X01_11, p00_11, p01_11⟩
  clear hK K hHeld
  have hHeld := hHeld'
  clear hHeld'
  (try simp only [Act.put, List.setIfInBounds_toArray, List.set_cons_zero, List.set_cons_succ])
  refine tk 4 ?_
  refine wpAnyH_done (by kernel_rfl) ?_ _
  clear hHeld
  go_wp2_with fail
  refine (markSnap_rep (From (w4.heap.size) (w5.heap.size)) _ sn0_0 _ _ sn1_0 _  sx0_0 sx1_0 _ _ HZ0.out.1 sh0_0 HZ0.out.2 sh1_0 HDD1_0.out hcs1_0 (by omega) (by omega) (fun b h => by have h2 := h.2; omega) ox0_11.out).mono ?_
  rintro e w12 ⟨rfl, ho12, hg12⟩
  rw [HV0.out]
  have ox0_12 := Hid.mk ho12
  clear ho12
  have p00_12 := hg12.cell p00_11 (show ¬ From (w4.heap.size) (w5.heap.size) (w.heap.size) from fun h => by have h1 := h.1; have h2 := h.2; omega)
  have p01_12 := hg12.cell p01_11 (show ¬ From (w4.heap.size) (w5.heap.size) (w.heap.size) from fun h => by have h1 := h.1; have h2 := h.2; omega)
  have Wt0_12 := hg12.cell Wt0_11 (show ¬ From (w4.heap.size) (w5.heap.size) (w3.heap.size) from fun h => by have h1 := h.1; have h2 := h.2; omega)
  have Wt1_12 := hg12.cell Wt1_11 (show ¬ From (w4.heap.size) (w5.heap.size) (w3.heap.size) from fun h => by have h1 := h.1; have h2 := h.2; omega)
  have X00_12 := hg12.cell X00_11 (show ¬ From (w4.heap.size) (w5.heap.size) (w5.heap.size) from fun h => by have h1 := h.1; have h2 := h.2; omega)
  have X01_12 := hg12.cell X01_11 (show ¬ From (w4.heap.size) (w5.heap.size) (w5.heap.size) from fun h => by have h1 := h.1; have h2 := h.2; omega)
  have Gt0_12 := hg12.cell Gt0_11 (show ¬ From (w4.heap.size) (w5.heap.size) (w7.heap.size) from fun h => by have h1 := h.1; have h2 := h.2; omega)
  have Gt1_12 := hg12.cell Gt1_11 (show ¬ From (w4.heap.size) (w5.heap.size) (w7.heap.size) from fun h => by have h1 := h.1; have h2 := h.2; omega)
  have oo_12 := Hid.mk (RSnap.ownOff oo_11.out hg12 (fun b h1 h2 => by have h3 := h1.1; have h4 := h1.2; have h5 := h2.1; have h6 := h2.2; omega))
  have og_12 := Hid.mk (RSnap.ownOff og_11.out hg12 (fun b h1 h2 => by have h3 := h1.1; have h4 := h1.2; have h5 := h2.1; have h6 := h2.2; omega))
  have B_12 := B_11.trans (hg12.toBelow (by omega) B_11.size)
  have zz12 : w11.heap.size ≤ w12.heap.size := hg12.size
  clear p00_11 p01_11 Wt0_11 Wt1_11 X00_11 X01_11 Gt0_11 Gt1_11 oo_11 ox0_11 og_11 B_11
  clear hg12
  have kpos : ¬ (1 : Int) + (V0 : Int) < 0 := by omega
  go_wp2_with fail
  refine (eqSnap_same _ l0 _ _ l1 _ _ _ _ _  t0 t1 _ HL0.out hs0 HL1.out hs1 HD1.out (RSnap.lens og_12.out).2.1 (RSnap.lens oo_12.out).2.1 (RSnap.lens og_12.out).2.2.2 (RSnap.lens oo_12.out).2.2.2).mono ?_
  rintro e w13 ⟨rfl, hb13⟩
  have p00_13 := cell_later hb13 p00_12
  have p01_13 := cell_later hb13 p01_12
  have Wt0_13 := cell_later hb13 Wt0_12
  have Wt1_13 := cell_later hb13 Wt1_12
  have X00_13 := cell_later hb13 X00_12
  have X01_13 := cell_later hb13 X01_12
  have Gt0_13 := cell_later hb13 Gt0_12
  have Gt1_13 := cell_later hb13 Gt1_12
  have oo_13 := Hid.mk (RSnap.ownBelow oo_12.out hb13)
  have ox0_13 := Hid.mk (RSnap.ownBelow ox0_12.out hb13)
  have og_13 := Hid.mk (RSnap.ownBelow og_12.out hb13)
  have B_13 := B_12.trans (hb13.mono B_12.size)
  have zz13 : w12.heap.size ≤ w13.heap.size := hb13.size
  clear p00_12 p01_12 Wt0_12 Wt1_12 X00_12 X01_12 Gt0_12 Gt1_12 oo_12 ox0_12 og_12 B_12
  clear hb13
  clear ox0_13
  go_wp2_with fail
  refine (markSnap_rep (From (w6.heap.size) (w7.heap.size)) _ l0 _ _ l1 _  t0 t1 1 _ HL0.out hs0 HL1.out hs1 HD1.out hcs1 (by omega) (by omega) (fun b h => by have h2 := h.2; omega) og_13.out).mono ?_
  rintro e w14 ⟨rfl, ho14, hg14⟩
  rw [HVA.out]
  have og_14 := Hid.mk ho14
  clear ho14
  have p00_14 := hg14.cell p00_13 (show ¬ From (w6.heap.size) (w7.heap.size) (w.heap.size) from fun h => by have h1 := h.1; have h2 := h.2; omega)
  have p01_14 := hg14.cell p01_13 (show ¬ From (w6.heap.size) (w7.heap.size) (w.heap.size) from fun h => by have h1 := h.1; have h2 := h.2; omega)
  have Wt0_14 := hg14.cell Wt0_13 (show ¬ From (w6.heap.size) (w7.heap.size) (w3.heap.size) from fun h => by have h1 := h.1; have h2 := h.2; omega)
  have Wt1_14 := hg14.cell Wt1_13 (show ¬ From (w6.heap.size) (w7.heap.size) (w3.heap.size) from fun h => by have h1 := h.1; have h2 := h.2; omega)
  have X00_14 := hg14.cell X00_13 (show ¬ From (w6.heap.size) (w7.heap.size) (w5.heap.size) from fun h => by have h1 := h.1; have h2 := h.2; omega)
  have X01_14 := hg14.cell X01_13 (show ¬ From (w6.heap.size) (w7.heap.size) (w5.heap.size) from fun h => by have h1 := h.1; have h2 := h.2; omega)
  have Gt0_14 := hg14.cell Gt0_13 (show ¬ From (w6.heap.size) (w7.heap.size) (w7.heap.size) from fun h => by have h1 := h.1; have h2 := h.2; omega)
  have Gt1_14 := hg14.cell Gt1_13 (show ¬ From (w6.heap.size) (w7.heap.size) (w7.heap.size) from fun h => by have h1 := h.1; have h2 := h.2; omega)
  have oo_14 := Hid.mk (RSnap.ownOff oo_13.out hg14 (fun b h1 h2 => by have h3 := h1.1; have h4 := h1.2; have h5 := h2.1; have h6 := h2.2; omega))
  have B_14 := B_13.trans (hg14.toBelow (by omega) B_13.size)
  have zz14 : w13.heap.size ≤ w14.heap.size := hg14.size
  clear p00_13 p01_13 Wt0_13 Wt1_13 X00_13 X01_13 Gt0_13 Gt1_13 oo_13 og_13 B_13
  clear hg14
  have gpos : ¬ (1 : Int) + (VA : Int) < 0 := by omega
  go_wp2_with fail
  refine (heldSnap_rep _ l0 _ _ l1 _  t0 t1 1 _ HL0.out hs0 HL1.out hs1 HD1.out hcs1 (by omega) (by omega) (RSnap.toAt og_14.out)).mono ?_
  rintro e w15 ⟨rfl, hb15⟩
  rw [HVA.out]
  have p00_15 := cell_later hb15 p00_14
  have p01_15 := cell_later hb15 p01_14
  have Wt0_15 := cell_later hb15 Wt0_14
  have Wt1_15 := cell_later hb15 Wt1_14
  have X00_15 := cell_later hb15 X00_14
  have X01_15 := cell_later hb15 X01_14
  have Gt0_15 := cell_later hb15 Gt0_14
  have Gt1_15 := cell_later hb15 Gt1_14
  have oo_15 := Hid.mk (RSnap.ownBelow oo_14.out hb15)
  have og_15 := Hid.mk (RSnap.ownBelow og_14.out hb15)
  have B_15 := B_14.trans (hb15.mono B_14.size)
  have zz15 : w14.heap.size ≤ w15.heap.size := hb15.size
  clear p00_14 p01_14 Wt0_14 Wt1_14 X00_14 X01_14 Gt0_14 Gt1_14 oo_14 og_14 B_14
  clear hb15
  go_wp2_with fail
  refine (toSnap_rep sa0_0 sn0_0 sc0_0 sa1_0 sn1_0 sc1_0  sx0_0 sx1_0 _ HZ0.out.1 sh0_0 HZ0.out.2 sh1_0 HDD1_0.out (AtSl.below HA0.out.1 B_15) (AtSl.below HA0.out.2 B_15)).mono ?_
  rintro e w16 ⟨g16_0, g16_1, rfl, ho16, hb16⟩
  have oh0_16 := Hid.mk ho16
  clear ho16
  have p00_16 := cell_later hb16 p00_15
  have p01_16 := cell_later hb16 p01_15
  have Wt0_16 := cell_later hb16 Wt0_15
  have Wt1_16 := cell_later hb16 Wt1_15
  have X00_16 := cell_later hb16 X00_15
  have X01_16 := cell_later hb16 X01_15
  have Gt0_16 := cell_later hb16 Gt0_15
  have Gt1_16 := cell_later hb16 Gt1_15
  have oo_16 := Hid.mk (RSnap.ownBelow oo_15.out hb16)
  have og_16 := Hid.mk (RSnap.ownBelow og_15.out hb16)
  have B_16 := B_15.trans (hb16.mono B_15.size)
  have zz16 : w15.heap.size ≤ w16.heap.size := hb16.size
  clear p00_15 p01_15 Wt0_15 Wt1_15 X00_15 X01_15 Gt0_15 Gt1_15 oo_15 og_15 B_15
  clear hb16
  go_wp2_with fail
  refine (HI.out _ _ _ _ oh0_16.out).mono ?_
  rintro e w17 ⟨⟨r017, m017, d017, r117, m117, d117, rfl, ho17⟩, hb17⟩
  clear oh0_16
  obtain rfl : l0 = m017 := HL0.out.symm.trans (RSnap.lens ho17).1
  obtain rfl : l1 = m117 := HL1.out.symm.trans (RSnap.lens ho17).2.2.1
  have ohg_17 := Hid.mk ho17
  clear ho17
  have p00_17 := cell_later hb17 p00_16
  have p01_17 := cell_later hb17 p01_16
  have Wt0_17 := cell_later hb17 Wt0_16
  have Wt1_17 := cell_later hb17 Wt1_16
  have X00_17 := cell_later hb17 X00_16
  have X01_17 := cell_later hb17 X01_16
  have Gt0_17 := cell_later hb17 Gt0_16
  have Gt1_17 := cell_later hb17 Gt1_16
  have oo_17 := Hid.mk (RSnap.ownBelow oo_16.out hb17)
  have og_17 := Hid.mk (RSnap.ownBelow og_16.out hb17)
  have B_17 := B_16.trans (hb17.mono B_16.size)
  have zz17 : w16.heap.size ≤ w17.heap.size := hb17.size
  clear p00_16 p01_16 Wt0_16 Wt1_16 X00_16 X01_16 Gt0_16 Gt1_16 oo_16 og_16 B_16
  clear hb17
  obtain ⟨w18, hU18⟩ : ∃ u, u = w17.alloc (.cells #[.slice r017 l0 d017, .slice r117 l1 d117] 32) := ⟨_, rfl⟩
  have hb18 : Below w17.heap.size w17 w18 := by rw [hU18]; exact (Below.refl _ _).alloc (Nat.le_refl _) _
  have zl18 : w17.heap.size < w18.heap.size := by rw [hU18]; simp
  have nHt0 : w18.cell? ⟨w17.heap.size, 0, none⟩ = some (.slice r017 l0 d017) := by rw [hU18]; simp
  have nHt1 : w18.cell? ⟨w17.heap.size, 1, none⟩ = some (.slice r117 l1 d117) := by rw [hU18]; simp
  have p00_18 := cell_later hb18 p00_17
  have p01_18 := cell_later hb18 p01_17
  have Wt0_18 := cell_later hb18 Wt0_17
  have Wt1_18 := cell_later hb18 Wt1_17
  have X00_18 := cell_later hb18 X00_17
  have X01_18 := cell_later hb18 X01_17
  have Gt0_18 := cell_later hb18 Gt0_17
  have Gt1_18 := cell_later hb18 Gt1_17
  have oo_18 := Hid.mk (RSnap.ownBelow oo_17.out hb18)
  have og_18 := Hid.mk (RSnap.ownBelow og_17.out hb18)
  have ohg_18 := Hid.mk (RSnap.ownBelow ohg_17.out hb18)
  have B_18 := B_17.trans (hb18.mono B_17.size)
  have zz18 : w17.heap.size ≤ w18.heap.size := hb18.size
  clear p00_17 p01_17 Wt0_17 Wt1_17 X00_17 X01_17 Gt0_17 Gt1_17 oo_17 og_17 ohg_17 B_17
  clear hb18
  have xp00 := p00_18
  rw [hU18] at xp00
  have xp01 := p01_18
  rw [hU18] at xp01
  have xWt0 := Wt0_18
  rw [hU18] at xWt0
  have xWt1 := Wt1_18
  rw [hU18] at xWt1
  have xX00 := X00_18
  rw [hU18] at xX00
  have xX01 := X01_18
  rw [hU18] at xX01
  have xGt0 := Gt0_18
  rw [hU18] at xGt0
  have xGt1 := Gt1_18
  rw [hU18] at xGt1
  have xHt0 := nHt0
  rw [hU18] at xHt0
  have xHt1 := nHt1
  rw [hU18] at xHt1
  go_wp2_with fail
  rw [← hU18]
  clear hU18
  clear xp00 xp01 xWt0 xWt1 xX00 xX01 xGt0 xGt1 xHt0 xHt1
  refine (eqSnap_same _ l0 _ _ l1 _ _ _ _ _  t0 t1 _ HL0.out hs0 HL1.out hs1 HD1.out (RSnap.lens ohg_18.out).2.1 (RSnap.lens oo_18.out).2.1 (RSnap.lens ohg_18.out).2.2.2 (RSnap.lens oo_18.out).2.2.2).mono ?_
  rintro e w19 ⟨rfl, hb19⟩
  have p00_19 := cell_later hb19 p00_18
  have p01_19 := cell_later hb19 p01_18
  have Wt0_19 := cell_later hb19 Wt0_18
  have Wt1_19 := cell_later hb19 Wt1_18
  have X00_19 := cell_later hb19 X00_18
  have X01_19 := cell_later hb19 X01_18
  have Gt0_19 := cell_later hb19 Gt0_18
  have Gt1_19 := cell_later hb19 Gt1_18
  have Ht0_19 := cell_later hb19 nHt0
  have Ht1_19 := cell_later hb19 nHt1
  have oo_19 := Hid.mk (RSnap.ownBelow oo_18.out hb19)
  have og_19 := Hid.mk (RSnap.ownBelow og_18.out hb19)
  have ohg_19 := Hid.mk (RSnap.ownBelow ohg_18.out hb19)
  have B_19 := B_18.trans (hb19.mono B_18.size)
  have zz19 : w18.heap.size ≤ w19.heap.size := hb19.size
  clear p00_18 p01_18 Wt0_18 Wt1_18 X00_18 X01_18 Gt0_18 Gt1_18 nHt0 nHt1 oo_18 og_18 ohg_18 B_18
  clear hb19
  go_wp2_with fail
  refine (heldSnap_rep _ l0 _ _ l1 _  t0 t1 1 _ HL0.out hs0 HL1.out hs1 HD1.out hcs1 (by omega) (by omega) (RSnap.toAt og_19.out)).mono ?_
  rintro e w20 ⟨rfl, hb20⟩
  rw [HVA.out]
  have p00_20 := cell_later hb20 p00_19
  have p01_20 := cell_later hb20 p01_19
  have Wt0_20 := cell_later hb20 Wt0_19
  have Wt1_20 := cell_later hb20 Wt1_19
  have X00_20 := cell_later hb20 X00_19
  have X01_20 := cell_later hb20 X01_19
  have Gt0_20 := cell_later hb20 Gt0_19
  have Gt1_20 := cell_later hb20 Gt1_19
  have Ht0_20 := cell_later hb20 Ht0_19
  have Ht1_20 := cell_later hb20 Ht1_19
  have oo_20 := Hid.mk (RSnap.ownBelow oo_19.out hb20)
  have og_20 := Hid.mk (RSnap.ownBelow og_19.out hb20)
  have ohg_20 := Hid.mk (RSnap.ownBelow ohg_19.out hb20)
  have B_20 := B_19.trans (hb20.mono B_19.size)
  have zz20 : w19.heap.size ≤ w20.heap.size := hb20.size
  clear p00_19 p01_19 Wt0_19 Wt1_19 X00_19 X01_19 Gt0_19 Gt1_19 Ht0_19 Ht1_19 oo_19 og_19 ohg_19 B_19
  clear hb20
  go_wp2
  go_ret
  exact ⟨rfl, B_20⟩

end Go.Proofs.Ytnfdncofobkjhaa
