/- Contracts of the laws' sz of Prepared. -/
import Derived.Test.YtecaaekilbdgdaaPpG
import Derived.Test.YtecaaekilbdgdaaIntS
import Derived.Test.YtecaaekilbdgdaaSzU
namespace Go.Proofs.Ytecaaekilbdgdaa
open Go.RowKit

set_option maxRecDepth 100000 in
set_option maxHeartbeats 8000000 in
theorem szPrepared_any (a2 : Option Addr) (n2 : Nat) (c2 : Nat) (zi0 : Int) (zi1 : Int) (x2 : List Int) (l : Int) (w : World) (hz2 : x2.length = n2) (hn2 : n2 ≤ 9223372036854775807) (ha2 : At w a2 x2) (h0 : 0 ≤ l) (h1 : l ≤ 1048576) :
    Calls Try.prog 51 #[.agg #[.int .i64 zi0, .int .i64 zi1, .slice a2 n2 c2], .int .i64 l] w fun e w' => e = .returned (.int .i64 (leftOf l (costPrepared (zi0, zi1, x2)))) ∧ Below w.heap.size w w' := by
  obtain ⟨C2, hC2⟩ : ∃ C : Nat, n2 = C := ⟨_, rfl⟩
  have hv : costPrepared (zi0, zi1, x2) = C2 := by unfold costPrepared; simp only; rw [hz2, hC2]
  rw [hv]
  clear hv
  have HC2 := Hid.mk hC2
  have HA2 := Hid.mk ha2
  have HZ2 := Hid.mk hz2
  clear hC2 ha2 hz2
  obtain ⟨W, hW⟩ : ∃ W, W = w.alloc (.cells #[.int .i64 zi0, .int .i64 zi1, .slice a2 n2 c2] 63) := ⟨_, rfl⟩
  have B0 : Below w.heap.size w W := by rw [hW]; exact (Below.refl _ _).alloc (Nat.le_refl _) _
  go_enter Try.func51, Try.ntmps51
  go_wp2_with fail
  rw [← hW]
  clear hW
  refine (szInts_u a2 n2 c2 (l) W hn2 (by omega) (by omega)).mono ?_
  rintro e w0 ⟨rfl, hb0⟩
  rw [HC2.out]
  have B1 := B0.trans (hb0.mono B0.size)
  by_cases k0 : l < (C2 : Int)
  · rw [leftOf_no k0]
    go_wp2
    go_ret
    exact ⟨ret_int (leftOf_no (by omega)).symm, B1⟩
  rw [leftOf_yes k0]
  have y0 : ¬ l - (C2 : Int) < 0 := by omega
  go_wp2
  go_ret
  exact ⟨ret_int (by rw [leftOf_yes (by omega)]), B1⟩

set_option maxRecDepth 100000 in
set_option maxHeartbeats 8000000 in
theorem szPreparedS_any (a : Option Addr) (n c : Nat) (xs : List TPrepared) (l : Int) (w : World) (hz : xs.length = n) (hn : n ≤ 9223372036854775807) (h0 : 0 ≤ l) (h1 : l ≤ 1048576) (ha : AtSl RPrepared w a xs) :
    Calls Try.prog 32 #[.slice a n c, .int .i64 l] w fun e w' => e = .returned (.int .i64 (leftOf l (n + csumPrepared xs n : Nat))) ∧ Below w.heap.size w w' := by
  by_cases hb : l < n
  · have h' : l - (n : Int) < 0 := by omega
    go_enter Try.func32, Try.ntmps32
    go_wp2
    go_ret
    exact ⟨ret_int (leftOf_no (by omega)).symm, Below.refl _ _⟩
  have h' : ¬ l - (n : Int) < 0 := by omega
  by_cases hn0 : n = 0
  · subst hn0
    have ht : csumPrepared xs 0 = 0 := csumPrepared_zero xs
    go_enter Try.func32, Try.ntmps32
    go_wp2
    refine wp_loop_rounds 1 ?_
    rw [rounds_succ]
    go_wp2
    go_ret
    exact ⟨ret_int (by rw [ht, leftOf_yes (by omega)]; omega), Below.refl _ _⟩
  · go_enter Try.func32, Try.ntmps32
    go_wp2
    go_loopw [1, 5] (fun q i wr => ∃ (k : Nat) (r : Int), k ≤ n ∧ i = .int .i64 k ∧ q = .int .i64 r ∧ 0 ≤ r ∧ r ≤ 1048576 ∧ r + csumPrepared xs k = l - n ∧ Below w.heap.size w wr) (fun _ i _ => n - (intOf i).toNat)
    case atStart => exact ⟨0, l - n, Nat.zero_le _, rfl, rfl, by omega, by omega, by rw [csumPrepared_zero]; omega, Below.refl _ _⟩
    case round =>
      obtain ⟨k, r, hk, rfl, rfl, hr0, hr1, hr, hbw⟩ := hrel
      by_cases hlt : k < n
      · obtain ⟨b, off, rfl, _, hc⟩ := RPrepared.row (AtSl.below ha hbw) (by omega)
        obtain ⟨⟨zi0, zi1, x2⟩, hx⟩ : ∃ x, xs[k]? = some x := ⟨_, List.getElem?_eq_getElem (by omega)⟩
        obtain ⟨a2, n2, c2, g0, g1, g2, ⟨hv2, hu2, hw2, _⟩⟩ := hc k _ hx
        have hts := csumPrepared_succ hx
        have htm := csumPrepared_mono xs (k + 1) n (by omega)
        obtain ⟨V, hV⟩ : ∃ V : Nat, costPrepared (zi0, zi1, x2) = V := ⟨_, rfl⟩
        rw [hV] at hts
        have HV := Hid.mk hV
        have HR := Hid.mk hr
        have HT := Hid.mk hts
        have HM := Hid.mk htm
        have HX2 := Hid.mk (And.intro hv2 hw2)
        have hki : (k : Int) < (n : Int) := by omega
        clear hc hr hts ha htm hx hV hv2 hw2
        by_cases hfit : r < (V : Int)
        · go_wp2_with fail
          refine (szPrepared_any a2 n2 c2 zi0 zi1 x2 r wr HX2.out.1 hu2 HX2.out.2 hr0 hr1).mono ?_
          rintro e w' ⟨rfl, hb'⟩
          rw [HV.out, leftOf_no hfit]
          go_wp2
          go_ret
          exact ⟨ret_int (leftOf_no (by have := HR.out; have := HT.out; have := HM.out; omega)).symm, hbw.trans (hb'.mono hbw.size)⟩
        · have hd : ¬ r - (V : Int) < 0 := by omega
          go_wp2_with fail
          refine (szPrepared_any a2 n2 c2 zi0 zi1 x2 r wr HX2.out.1 hu2 HX2.out.2 hr0 hr1).mono ?_
          rintro e w' ⟨rfl, hb'⟩
          rw [HV.out, leftOf_yes (by omega)]
          go_wp2
          go_roundw
          case rel => exact ⟨k + 1, r - V, by omega, by go_num, rfl, by omega, by omega, by have := HR.out; have := HT.out; omega, hbw.trans (hb'.mono hbw.size)⟩
          case measure => simp [intOf]; omega
      · obtain rfl : k = n := by omega
        have HR := Hid.mk hr
        clear hr
        go_wp2
        go_ret
        exact ⟨ret_int (by have := HR.out; rw [leftOf_yes (by omega)]; omega), hbw⟩

end Go.Proofs.Ytecaaekilbdgdaa
