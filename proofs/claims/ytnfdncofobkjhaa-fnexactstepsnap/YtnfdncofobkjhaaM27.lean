/- Several texts of one proof, in build order: WiH, SnpH. -/
import Derived.Test.YtnfdncofobkjhaaM4
import Derived.Test.YtnfdncofobkjhaaM3
import Derived.Test.YtnfdncofobkjhaaM26

/- Contracts of the laws' sz of Wire. -/
namespace Go.Proofs.Ytnfdncofobkjhaa
open Go.RowKit

set_option maxRecDepth 100000 in
set_option maxHeartbeats 8000000 in
theorem szWire_any (a0 : Option Addr) (n0 : Nat) (c0 : Nat) (a1 : Option Addr) (n1 : Nat) (c1 : Nat) (bo2 : Bool) (x0 : List Int) (x1 : List Int) (l : Int) (w : World) (hz0 : x0.length = n0) (hn0 : n0 ≤ 9223372036854775807) (hz1 : x1.length = n1) (hn1 : n1 ≤ 9223372036854775807) (ha0 : At w a0 x0) (ha1 : At w a1 x1) (h0 : 0 ≤ l) (h1 : l ≤ 1048576) :
    Calls Try.prog 52 #[.agg #[.slice a0 n0 c0, .slice a1 n1 c1, .bool bo2], .int .i64 l] w fun e w' => e = .returned (.int .i64 (leftOf l (costWire (x0, x1, bo2)))) ∧ Below w.heap.size w w' := by
  obtain ⟨C0, hC0⟩ : ∃ C : Nat, n0 = C := ⟨_, rfl⟩
  obtain ⟨C1, hC1⟩ : ∃ C : Nat, n1 = C := ⟨_, rfl⟩
  have hv : costWire (x0, x1, bo2) = C0 + C1 := by unfold costWire; simp only; rw [hz0, hz1, hC0, hC1]
  rw [hv]
  clear hv
  have HC0 := Hid.mk hC0
  have HA0 := Hid.mk ha0
  have HZ0 := Hid.mk hz0
  clear hC0 ha0 hz0
  have HC1 := Hid.mk hC1
  have HA1 := Hid.mk ha1
  have HZ1 := Hid.mk hz1
  clear hC1 ha1 hz1
  obtain ⟨W, hW⟩ : ∃ W, W = w.alloc (.cells #[.slice a0 n0 c0, .slice a1 n1 c1, .bool bo2] 82) := ⟨_, rfl⟩
  have B0 : Below w.heap.size w W := by rw [hW]; exact (Below.refl _ _).alloc (Nat.le_refl _) _
  have p1 : W.cell? ⟨w.heap.size, 1, none⟩ = some (.slice a1 n1 c1) := by rw [hW]; simp
  go_enter Try.func52, Try.ntmps52
  go_wp2_with fail
  rw [← hW]
  clear hW
  refine (szInts_u a0 n0 c0 (l) W hn0 (by omega) (by omega)).mono ?_
  rintro e w0 ⟨rfl, hb0⟩
  rw [HC0.out]
  have B1 := B0.trans (hb0.mono B0.size)
  have p1 := cell_later hb0 p1
  by_cases k0 : l < (C0 : Int)
  · rw [leftOf_no k0]
    go_wp2
    go_ret
    exact ⟨ret_int (leftOf_no (by omega)).symm, B1⟩
  rw [leftOf_yes k0]
  have y0 : ¬ l - (C0 : Int) < 0 := by omega
  go_wp2_with fail
  refine (szInts_u a1 n1 c1 (l - (C0 : Int)) w0 hn1 (by omega) (by omega)).mono ?_
  rintro e w1 ⟨rfl, hb1⟩
  rw [HC1.out]
  have B2 := B1.trans (hb1.mono B1.size)
  by_cases k1 : l - (C0 : Int) < (C1 : Int)
  · rw [leftOf_no k1]
    go_wp2
    go_ret
    exact ⟨ret_int (leftOf_no (by omega)).symm, B2⟩
  rw [leftOf_yes k1]
  have y1 : ¬ l - (C0 : Int) - (C1 : Int) < 0 := by omega
  go_wp2
  go_ret
  exact ⟨ret_int (by rw [leftOf_yes (by omega)]; omega), B2⟩

set_option maxRecDepth 100000 in
set_option maxHeartbeats 8000000 in
theorem szWireS_any (a : Option Addr) (n c : Nat) (xs : List TWire) (l : Int) (w : World) (hz : xs.length = n) (hn : n ≤ 9223372036854775807) (h0 : 0 ≤ l) (h1 : l ≤ 1048576) (ha : AtSl RWire w a xs) :
    Calls Try.prog 29 #[.slice a n c, .int .i64 l] w fun e w' => e = .returned (.int .i64 (leftOf l (n + csumWire xs n : Nat))) ∧ Below w.heap.size w w' := by
  by_cases hb : l < n
  · have h' : l - (n : Int) < 0 := by omega
    go_enter Try.func29, Try.ntmps29
    go_wp2
    go_ret
    exact ⟨ret_int (leftOf_no (by omega)).symm, Below.refl _ _⟩
  have h' : ¬ l - (n : Int) < 0 := by omega
  by_cases hn0 : n = 0
  · subst hn0
    have ht : csumWire xs 0 = 0 := csumWire_zero xs
    go_enter Try.func29, Try.ntmps29
    go_wp2
    refine wp_loop_rounds 1 ?_
    rw [rounds_succ]
    go_wp2
    go_ret
    exact ⟨ret_int (by rw [ht, leftOf_yes (by omega)]; omega), Below.refl _ _⟩
  · go_enter Try.func29, Try.ntmps29
    go_wp2
    go_loopw [1, 5] (fun q i wr => ∃ (k : Nat) (r : Int), k ≤ n ∧ i = .int .i64 k ∧ q = .int .i64 r ∧ 0 ≤ r ∧ r ≤ 1048576 ∧ r + csumWire xs k = l - n ∧ Below w.heap.size w wr) (fun _ i _ => n - (intOf i).toNat)
    case atStart => exact ⟨0, l - n, Nat.zero_le _, rfl, rfl, by omega, by omega, by rw [csumWire_zero]; omega, Below.refl _ _⟩
    case round =>
      obtain ⟨k, r, hk, rfl, rfl, hr0, hr1, hr, hbw⟩ := hrel
      by_cases hlt : k < n
      · obtain ⟨b, off, rfl, _, hc⟩ := RWire.row (AtSl.below ha hbw) (by omega)
        obtain ⟨⟨x0, x1, bo2⟩, hx⟩ : ∃ x, xs[k]? = some x := ⟨_, List.getElem?_eq_getElem (by omega)⟩
        obtain ⟨a0, n0, c0, a1, n1, c1, g0, g1, g2, ⟨hv0, hu0, hw0, _⟩, ⟨hv1, hu1, hw1, _⟩⟩ := hc k _ hx
        have hts := csumWire_succ hx
        have htm := csumWire_mono xs (k + 1) n (by omega)
        obtain ⟨V, hV⟩ : ∃ V : Nat, costWire (x0, x1, bo2) = V := ⟨_, rfl⟩
        rw [hV] at hts
        have HV := Hid.mk hV
        have HR := Hid.mk hr
        have HT := Hid.mk hts
        have HM := Hid.mk htm
        have HX0 := Hid.mk (And.intro hv0 hw0)
        have HX1 := Hid.mk (And.intro hv1 hw1)
        have hki : (k : Int) < (n : Int) := by omega
        clear hc hr hts ha htm hx hV hv0 hw0 hv1 hw1
        by_cases hfit : r < (V : Int)
        · go_wp2_with fail
          refine (szWire_any a0 n0 c0 a1 n1 c1 bo2 x0 x1 r wr HX0.out.1 hu0 HX1.out.1 hu1 HX0.out.2 HX1.out.2 hr0 hr1).mono ?_
          rintro e w' ⟨rfl, hb'⟩
          rw [HV.out, leftOf_no hfit]
          go_wp2
          go_ret
          exact ⟨ret_int (leftOf_no (by have := HR.out; have := HT.out; have := HM.out; omega)).symm, hbw.trans (hb'.mono hbw.size)⟩
        · have hd : ¬ r - (V : Int) < 0 := by omega
          go_wp2_with fail
          refine (szWire_any a0 n0 c0 a1 n1 c1 bo2 x0 x1 r wr HX0.out.1 hu0 HX1.out.1 hu1 HX0.out.2 HX1.out.2 hr0 hr1).mono ?_
          rintro e w' ⟨rfl, hb'⟩
          rw [HV.out, leftOf_yes (by omega)]
          go_wp2
          go_roundw
          case rel => exact ⟨k + 1, r - V, by omega, by go_num, rfl, by omega, by omega, by have := HR.out; have := HT.out; omega, hbw.trans (hb'.mono hbw.size)⟩
          case measure => simp [intOf]; omega
      · obtain rfl : k = n := by omega
        have HR := Hid.mk hr
        clear hr
        go_wp2
        go_ret
        exact ⟨ret_int (by have := HR.out; rw [leftOf_yes (by omega)]; omega), hbw⟩

end Go.Proofs.Ytnfdncofobkjhaa

/- Contracts of the laws' sz of Snap. -/
namespace Go.Proofs.Ytnfdncofobkjhaa
open Go.RowKit

set_option maxRecDepth 100000 in
set_option maxHeartbeats 8000000 in
theorem szSnap_any (a0 : Option Addr) (n0 : Nat) (c0 : Nat) (a1 : Option Addr) (n1 : Nat) (c1 : Nat)  (x0 : List TProc) (x1 : List TWire) (l : Int) (w : World) (hz0 : x0.length = n0) (hn0 : n0 ≤ 9223372036854775807) (hz1 : x1.length = n1) (hn1 : n1 ≤ 9223372036854775807) (ha0 : AtSl RProc w a0 x0) (ha1 : AtSl RWire w a1 x1) (h0 : 0 ≤ l) (h1 : l ≤ 1048576) :
    Calls Try.prog 6 #[.agg #[.slice a0 n0 c0, .slice a1 n1 c1], .int .i64 l] w fun e w' => e = .returned (.int .i64 (leftOf l (costSnap (x0, x1)))) ∧ Below w.heap.size w w' := by
  obtain ⟨C0, hC0⟩ : ∃ C : Nat, n0 = C := ⟨_, rfl⟩
  obtain ⟨C1, hC1⟩ : ∃ C : Nat, (n1 + csumWire x1 n1) = C := ⟨_, rfl⟩
  have hv : costSnap (x0, x1) = C0 + C1 := by unfold costSnap; simp only; rw [hz0, hz1, hC0, hC1]
  rw [hv]
  clear hv
  have HC0 := Hid.mk hC0
  have HA0 := Hid.mk ha0
  have HZ0 := Hid.mk hz0
  clear hC0 ha0 hz0
  have HC1 := Hid.mk hC1
  have HA1 := Hid.mk ha1
  have HZ1 := Hid.mk hz1
  clear hC1 ha1 hz1
  obtain ⟨W, hW⟩ : ∃ W, W = w.alloc (.cells #[.slice a0 n0 c0, .slice a1 n1 c1] 25) := ⟨_, rfl⟩
  have B0 : Below w.heap.size w W := by rw [hW]; exact (Below.refl _ _).alloc (Nat.le_refl _) _
  have p1 : W.cell? ⟨w.heap.size, 1, none⟩ = some (.slice a1 n1 c1) := by rw [hW]; simp
  go_enter Try.func6, Try.ntmps6
  go_wp2_with fail
  rw [← hW]
  clear hW
  refine (szProcS_any a0 n0 c0 x0 (l) W HZ0.out hn0 (by omega) (by omega) (AtSl.below HA0.out B0)).mono ?_
  rintro e w0 ⟨rfl, hb0⟩
  rw [HC0.out]
  have B1 := B0.trans (hb0.mono B0.size)
  have p1 := cell_later hb0 p1
  by_cases k0 : l < (C0 : Int)
  · rw [leftOf_no k0]
    go_wp2
    go_ret
    exact ⟨ret_int (leftOf_no (by omega)).symm, B1⟩
  rw [leftOf_yes k0]
  have y0 : ¬ l - (C0 : Int) < 0 := by omega
  go_wp2_with fail
  refine (szWireS_any a1 n1 c1 x1 (l - (C0 : Int)) w0 HZ1.out hn1 (by omega) (by omega) (AtSl.below HA1.out B1)).mono ?_
  rintro e w1 ⟨rfl, hb1⟩
  rw [HC1.out]
  have B2 := B1.trans (hb1.mono B1.size)
  by_cases k1 : l - (C0 : Int) < (C1 : Int)
  · rw [leftOf_no k1]
    go_wp2
    go_ret
    exact ⟨ret_int (leftOf_no (by omega)).symm, B2⟩
  rw [leftOf_yes k1]
  have y1 : ¬ l - (C0 : Int) - (C1 : Int) < 0 := by omega
  go_wp2
  go_ret
  exact ⟨ret_int (by rw [leftOf_yes (by omega)]; omega), B2⟩


end Go.Proofs.Ytnfdncofobkjhaa
