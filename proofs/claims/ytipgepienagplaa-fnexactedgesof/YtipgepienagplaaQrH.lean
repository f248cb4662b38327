/- Contracts of the laws' helpers over queries: szAtom, szAtomS, szQuery. -/
import Derived.Test.YtipgepienagplaaQrG
namespace Go.Proofs.Ytipgepienagplaa
open Go.RowKit

set_option maxRecDepth 100000 in
set_option maxHeartbeats 1000000 in
theorem szAtom_any (p : Int) (pa : Option Addr) (pn pc : Nat) (xs : List Int) (l : Int) (w : World) (hz : xs.length = pn) (hn : pn ≤ 9223372036854775807) (h0 : 0 ≤ l) (h1 : l ≤ 1048576) :
    Calls Try.prog 90 #[.agg #[.int .i64 p, .slice pa pn pc], .int .i64 l] w fun e w' => e = .returned (.int .i64 (leftOf l (acost (p, xs)))) ∧ Below w.heap.size w w' := by
  have hv : acost (p, xs) = pn := by unfold acost; simp only; rw [hz]
  rw [hv]
  clear hv
  obtain ⟨W, hW⟩ : ∃ W, W = w.alloc (.cells #[.int .i64 p, .slice pa pn pc] 116) := ⟨_, rfl⟩
  have B0 : Below w.heap.size w W := by rw [hW]; exact (Below.refl _ _).alloc (Nat.le_refl _) _
  clear hz
  by_cases c1 : l < pn
  · go_enter Try.func90, Try.ntmps90
    go_wp2_with fail
    rw [← hW]
    clear hW
    refine (szIntS_any pa pn pc l W hn h0 h1).mono ?_
    rintro e w2 ⟨rfl, rfl⟩
    rw [if_pos c1]
    go_wp2
    go_ret
    exact ⟨ret_int (leftOf_no (by omega)).symm, B0⟩
  · go_enter Try.func90, Try.ntmps90
    have d1 : ¬ l - (pn : Int) < 0 := by omega
    go_wp2_with fail
    rw [← hW]
    clear hW
    refine (szIntS_any pa pn pc l W hn h0 h1).mono ?_
    rintro e w2 ⟨rfl, rfl⟩
    rw [if_neg (by omega)]
    go_wp2
    go_ret
    exact ⟨ret_int (by rw [leftOf_yes (by omega)]), B0⟩

set_option maxRecDepth 100000 in
set_option maxHeartbeats 2000000 in
theorem szAtomS_any (a : Option Addr) (n c : Nat) (xs : List Atm) (l : Int) (w : World) (hz : xs.length = n) (hn : n ≤ 9223372036854775807) (h0 : 0 ≤ l) (h1 : l ≤ 1048576) (ha : AtQ w a xs) :
    Calls Try.prog 51 #[.slice a n c, .int .i64 l] w fun e w' => e = .returned (.int .i64 (leftOf l (n + asum xs n : Nat))) ∧ Below w.heap.size w w' := by
  by_cases hb : l < n
  · have h' : l - (n : Int) < 0 := by omega
    go_enter Try.func51, Try.ntmps51
    go_wp2
    go_ret
    exact ⟨ret_int (leftOf_no (by omega)).symm, Below.refl _ _⟩
  have h' : ¬ l - (n : Int) < 0 := by omega
  by_cases hn0 : n = 0
  · subst hn0
    have ht : asum xs 0 = 0 := asum_zero xs
    go_enter Try.func51, Try.ntmps51
    go_wp2
    refine wp_loop_rounds 1 ?_
    rw [rounds_succ]
    go_wp2
    go_ret
    exact ⟨ret_int (by rw [ht, leftOf_yes (by omega)]; omega), Below.refl _ _⟩
  · go_enter Try.func51, Try.ntmps51
    go_wp2
    go_loopw [1, 5] (fun q i wr => ∃ (k : Nat) (r : Int), k ≤ n ∧ i = .int .i64 k ∧ q = .int .i64 r ∧ 0 ≤ r ∧ r ≤ 1048576 ∧ r + asum xs k = l - n ∧ Below w.heap.size w wr) (fun _ i _ => n - (intOf i).toNat)
    case atStart => exact ⟨0, l - n, Nat.zero_le _, rfl, rfl, by omega, by omega, by rw [asum_zero]; omega, Below.refl _ _⟩
    case round =>
      obtain ⟨k, r, hk, rfl, rfl, hr0, hr1, hr, hbw⟩ := hrel
      by_cases hlt : k < n
      · obtain ⟨b, off, rfl, _, hc⟩ := AtQ.row (AtSl.below ha hbw) (by omega)
        obtain ⟨⟨xp, xt⟩, hx⟩ : ∃ x, xs[k]? = some x := ⟨_, List.getElem?_eq_getElem (by omega)⟩
        obtain ⟨ta, tn, tc, g0, g1, u1, u2, _⟩ := hc k _ hx
        have hts := asum_succ hx
        have htm := asum_mono xs (k + 1) n (by omega)
        have HR := Hid.mk hr
        have HT := Hid.mk hts
        have HM := Hid.mk htm
        have HX2 := Hid.mk u1
        have hki : (k : Int) < (n : Int) := by omega
        clear hc hr hts ha htm hx u1
        by_cases hfit : r < acost (xp, xt)
        · go_wp2_with fail
          refine (szAtom_any xp ta tn tc xt r wr HX2.out u2 hr0 hr1).mono ?_
          rintro e w' ⟨rfl, hb'⟩
          rw [leftOf_no hfit]
          go_wp2
          go_ret
          exact ⟨ret_int (leftOf_no (by have := HR.out; have := HT.out; have := HM.out; omega)).symm, hbw.trans (hb'.mono hbw.size)⟩
        · have hd : ¬ r - (acost (xp, xt) : Int) < 0 := by omega
          go_wp2_with fail
          refine (szAtom_any xp ta tn tc xt r wr HX2.out u2 hr0 hr1).mono ?_
          rintro e w' ⟨rfl, hb'⟩
          rw [leftOf_yes (by omega)]
          go_wp2
          go_roundw
          case rel => exact ⟨k + 1, r - acost (xp, xt), by omega, by go_num, rfl, by omega, by omega, by have := HR.out; have := HT.out; omega, hbw.trans (hb'.mono hbw.size)⟩
          case measure => simp [intOf]; omega
      · obtain rfl : k = n := by omega
        have HR := Hid.mk hr
        clear hr
        go_wp2
        go_ret
        exact ⟨ret_int (by have := HR.out; rw [leftOf_yes (by omega)]; omega), hbw⟩

/-- What the laws count for a query. -/
def qcost (x : Qry) : Nat := x.1.length + (x.2.length + asum x.2 x.2.length)

set_option maxRecDepth 100000 in
set_option maxHeartbeats 1000000 in
theorem szQuery_any (sa : Option Addr) (sn sc : Nat) (pa : Option Addr) (pn pc : Nat) (ss : List Int) (xs : List Atm) (l : Int) (w : World) (hs : ss.length = sn) (hsn : sn ≤ 9223372036854775807) (hz : xs.length = pn) (hn : pn ≤ 9223372036854775807) (h0 : 0 ≤ l) (h1 : l ≤ 1048576) (ha : AtQ w pa xs) :
    Calls Try.prog 9 #[.agg #[.slice sa sn sc, .slice pa pn pc], .int .i64 l] w fun e w' => e = .returned (.int .i64 (leftOf l (qcost (ss, xs)))) ∧ Below w.heap.size w w' := by
  obtain ⟨C, hC⟩ : ∃ C, pn + asum xs pn = C := ⟨_, rfl⟩
  have hv : qcost (ss, xs) = sn + C := by unfold qcost; simp only; rw [hs, hz, hC]
  rw [hv]
  clear hv
  have HC := Hid.mk hC
  clear hC
  obtain ⟨W, hW⟩ : ∃ W, W = w.alloc (.cells #[.slice sa sn sc, .slice pa pn pc] 25) := ⟨_, rfl⟩
  have B0 : Below w.heap.size w W := by rw [hW]; exact (Below.refl _ _).alloc (Nat.le_refl _) _
  have q1 : W.cell? ⟨w.heap.size, 1, none⟩ = some (.slice pa pn pc) := by rw [hW]; simp
  have HZ := Hid.mk hz
  have HA := Hid.mk (AtSl.below ha B0)
  clear hz hs ha
  by_cases c1 : l < sn
  · go_enter Try.func9, Try.ntmps9
    go_wp2_with fail
    rw [← hW]
    clear hW
    refine (szIntS_any sa sn sc l W hsn h0 h1).mono ?_
    rintro e w2 ⟨rfl, rfl⟩
    rw [if_pos c1]
    go_wp2
    go_ret
    exact ⟨ret_int (leftOf_no (by omega)).symm, B0⟩
  by_cases c2 : l - sn < (C : Int)
  · go_enter Try.func9, Try.ntmps9
    have d1 : ¬ l - (sn : Int) < 0 := by omega
    go_wp2_with fail
    rw [← hW]
    clear hW
    refine (szIntS_any sa sn sc l W hsn h0 h1).mono ?_
    rintro e w2 ⟨rfl, h9⟩
    obtain rfl := h9.symm
    rw [if_neg (by omega)]
    go_wp2_with fail
    refine (szAtomS_any pa pn pc xs (l - sn) _ HZ.out hn (by omega) (by omega) HA.out).mono ?_
    rintro e w3 ⟨rfl, hb⟩
    rw [HC.out, leftOf_no c2]
    go_wp2
    go_ret
    exact ⟨ret_int (leftOf_no (by omega)).symm, B0.trans (hb.mono B0.size)⟩
  · go_enter Try.func9, Try.ntmps9
    have d1 : ¬ l - (sn : Int) < 0 := by omega
    have d2 : ¬ l - (sn : Int) - (C : Int) < 0 := by omega
    go_wp2_with fail
    rw [← hW]
    clear hW
    refine (szIntS_any sa sn sc l W hsn h0 h1).mono ?_
    rintro e w2 ⟨rfl, h9⟩
    obtain rfl := h9.symm
    rw [if_neg (by omega)]
    go_wp2_with fail
    refine (szAtomS_any pa pn pc xs (l - sn) _ HZ.out hn (by omega) (by omega) HA.out).mono ?_
    rintro e w3 ⟨rfl, hb⟩
    rw [HC.out, leftOf_yes (by omega)]
    go_wp2
    go_ret
    exact ⟨ret_int (by rw [leftOf_yes (by omega)]; omega), B0.trans (hb.mono B0.size)⟩

end Go.Proofs.Ytipgepienagplaa
