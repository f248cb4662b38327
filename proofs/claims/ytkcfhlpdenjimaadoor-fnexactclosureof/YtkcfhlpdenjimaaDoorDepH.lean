/- Contracts of the laws' helpers over dependencies: szDepend, szDependS. -/
import Derived.Test.YtkcfhlpdenjimaaDoorDepG
namespace Go.Proofs.YtkcfhlpdenjimaaDoor
open Go.RowKit

set_option maxRecDepth 100000 in
set_option maxHeartbeats 1000000 in
theorem szDepend_any (sa : Option Addr) (sn sc : Nat) (pa : Option Addr) (pn pc : Nat) (ss : List Int) (xs : List Int) (l : Int) (w : World) (hs : ss.length = sn) (hsn : sn ≤ 9223372036854775807) (hz : xs.length = pn) (hn : pn ≤ 9223372036854775807) (h0 : 0 ≤ l) (h1 : l ≤ 1048576) :
    Calls Tryd.prog 17 #[.agg #[.slice sa sn sc, .slice pa pn pc], .int .i64 l] w fun e w' => e = .returned (.int .i64 (leftOf l (dcost (ss, xs)))) ∧ Below w.heap.size w w' := by
  have hv : dcost (ss, xs) = sn + pn := by unfold dcost; simp only; rw [hs, hz]
  rw [hv]
  clear hv
  obtain ⟨W, hW⟩ : ∃ W, W = w.alloc (.cells #[.slice sa sn sc, .slice pa pn pc] 36) := ⟨_, rfl⟩
  have B0 : Below w.heap.size w W := by rw [hW]; exact (Below.refl _ _).alloc (Nat.le_refl _) _
  have q1 : W.cell? ⟨w.heap.size, 1, none⟩ = some (.slice pa pn pc) := by rw [hW]; simp
  have HZ := Hid.mk hz
  clear hz hs
  by_cases c1 : l < sn
  · go_enter Tryd.func17, Tryd.ntmps17
    go_wp2_with fail
    rw [← hW]
    clear hW
    refine (szIntS_any sa sn sc l W hsn h0 h1).mono ?_
    rintro e w2 ⟨rfl, rfl⟩
    rw [if_pos c1]
    go_wp2
    go_ret
    exact ⟨ret_int (leftOf_no (by omega)).symm, B0⟩
  by_cases c2 : l - sn < (pn : Int)
  · go_enter Tryd.func17, Tryd.ntmps17
    have d1 : ¬ l - (sn : Int) < 0 := by omega
    go_wp2_with fail
    rw [← hW]
    clear hW
    refine (szIntS_any sa sn sc l W hsn h0 h1).mono ?_
    rintro e w2 ⟨rfl, rfl⟩
    rw [if_neg (by omega)]
    go_wp2_with fail
    refine (szIntS_any pa pn pc (l - sn) _ hn (by omega) (by omega)).mono ?_
    rintro e w3 ⟨rfl, rfl⟩
    rw [if_pos (by omega)]
    go_wp2
    go_ret
    exact ⟨ret_int (leftOf_no (by omega)).symm, B0⟩
  · go_enter Tryd.func17, Tryd.ntmps17
    have d1 : ¬ l - (sn : Int) < 0 := by omega
    have d2 : ¬ l - (sn : Int) - (pn : Int) < 0 := by omega
    go_wp2_with fail
    rw [← hW]
    clear hW
    refine (szIntS_any sa sn sc l W hsn h0 h1).mono ?_
    rintro e w2 ⟨rfl, rfl⟩
    rw [if_neg (by omega)]
    go_wp2_with fail
    refine (szIntS_any pa pn pc (l - sn) _ hn (by omega) (by omega)).mono ?_
    rintro e w3 ⟨rfl, rfl⟩
    rw [if_neg (by omega)]
    go_wp2
    go_ret
    exact ⟨ret_int (by rw [leftOf_yes (by omega)]; omega), B0⟩

set_option maxRecDepth 100000 in
set_option maxHeartbeats 2000000 in
theorem szDependS_any (a : Option Addr) (n c : Nat) (xs : List Dep) (l : Int) (w : World) (hz : xs.length = n) (hn : n ≤ 9223372036854775807) (h0 : 0 ≤ l) (h1 : l ≤ 1048576) (ha : AtD w a xs) :
    Calls Tryd.prog 7 #[.slice a n c, .int .i64 l] w fun e w' => e = .returned (.int .i64 (leftOf l (n + dsum xs n : Nat))) ∧ Below w.heap.size w w' := by
  by_cases hb : l < n
  · have h' : l - (n : Int) < 0 := by omega
    go_enter Tryd.func7, Tryd.ntmps7
    go_wp2
    go_ret
    exact ⟨ret_int (leftOf_no (by omega)).symm, Below.refl _ _⟩
  have h' : ¬ l - (n : Int) < 0 := by omega
  by_cases hn0 : n = 0
  · subst hn0
    have ht : dsum xs 0 = 0 := dsum_zero xs
    go_enter Tryd.func7, Tryd.ntmps7
    go_wp2
    refine wp_loop_rounds 1 ?_
    rw [rounds_succ]
    go_wp2
    go_ret
    exact ⟨ret_int (by rw [ht, leftOf_yes (by omega)]; omega), Below.refl _ _⟩
  · go_enter Tryd.func7, Tryd.ntmps7
    go_wp2
    go_loopw [1, 5] (fun q i wr => ∃ (k : Nat) (r : Int), k ≤ n ∧ i = .int .i64 k ∧ q = .int .i64 r ∧ 0 ≤ r ∧ r ≤ 1048576 ∧ r + dsum xs k = l - n ∧ Below w.heap.size w wr) (fun _ i _ => n - (intOf i).toNat)
    case atStart => exact ⟨0, l - n, Nat.zero_le _, rfl, rfl, by omega, by omega, by rw [dsum_zero]; omega, Below.refl _ _⟩
    case round =>
      obtain ⟨k, r, hk, rfl, rfl, hr0, hr1, hr, hbw⟩ := hrel
      by_cases hlt : k < n
      · obtain ⟨b, off, rfl, _, hc⟩ := AtD.row (AtSl.below ha hbw) (by omega)
        obtain ⟨⟨xf, xt⟩, hx⟩ : ∃ x, xs[k]? = some x := ⟨_, List.getElem?_eq_getElem (by omega)⟩
        obtain ⟨fa, fn, fc, ta, tn, tc, g0, g1, ⟨t1, t2, _⟩, ⟨u1, u2, _⟩⟩ := hc k _ hx
        have hts := dsum_succ hx
        have htm := dsum_mono xs (k + 1) n (by omega)
        have HR := Hid.mk hr
        have HT := Hid.mk hts
        have HM := Hid.mk htm
        have HX1 := Hid.mk t1
        have HX2 := Hid.mk u1
        have hki : (k : Int) < (n : Int) := by omega
        clear hc hr hts ha htm hx t1 u1
        by_cases hfit : r < dcost (xf, xt)
        · go_wp2_with fail
          refine (szDepend_any fa fn fc ta tn tc xf xt r wr HX1.out t2 HX2.out u2 hr0 hr1).mono ?_
          rintro e w' ⟨rfl, hb'⟩
          rw [leftOf_no hfit]
          go_wp2
          go_ret
          exact ⟨ret_int (leftOf_no (by have := HR.out; have := HT.out; have := HM.out; omega)).symm, hbw.trans (hb'.mono hbw.size)⟩
        · have hd : ¬ r - (dcost (xf, xt) : Int) < 0 := by omega
          go_wp2_with fail
          refine (szDepend_any fa fn fc ta tn tc xf xt r wr HX1.out t2 HX2.out u2 hr0 hr1).mono ?_
          rintro e w' ⟨rfl, hb'⟩
          rw [leftOf_yes (by omega)]
          go_wp2
          go_roundw
          case rel => exact ⟨k + 1, r - dcost (xf, xt), by omega, by go_num, rfl, by omega, by omega, by have := HR.out; have := HT.out; omega, hbw.trans (hb'.mono hbw.size)⟩
          case measure => simp [intOf]; omega
      · obtain rfl : k = n := by omega
        have HR := Hid.mk hr
        clear hr
        go_wp2
        go_ret
        exact ⟨ret_int (by have := HR.out; rw [leftOf_yes (by omega)]; omega), hbw⟩

end Go.Proofs.YtkcfhlpdenjimaaDoor
