/- Contracts of the program's sums over a snap. -/
import Derived.Test.YthfndafgllcelaaNapJ
import Derived.Deep.CutBlock
namespace Go.Proofs.Ythfndafgllcelaa
open Go.RowKit

set_option maxRecDepth 100000 in
set_option maxHeartbeats 1000000 in
theorem sumOf_any (a : Option Addr) (n c : Nat) (zs : List Int) (w : World) (hz : zs.length = n) (hn : n ≤ 200) (hall : ∀ x ∈ zs, 0 ≤ x ∧ x ≤ 1000000) (ha : At w a zs) :
    Calls Try.prog 77 #[.slice a n c] w fun e w' => e = .returned (.int .i64 zs.sum) ∧ Below w.heap.size w w' := by
  have HS : Hid (∀ k, 0 ≤ sumTo (fun x : Int => x) zs k ∧ sumTo (fun x : Int => x) zs k ≤ 1000000 * k) := Hid.mk (sumTo_le _ (by omega) hall)
  have HP : Hid (sumTo (fun x : Int => x) zs n = zs.sum) := Hid.mk (by rw [sumTo_all _ _ hz]; simp)
  have HA := Hid.mk ha
  have HZ := Hid.mk hz
  clear ha hz hall
  go_enter Try.func77, Try.ntmps77
  go_wp2_with fail
  go_loopw [3, 8] (fun q i wr => ∃ (k : Nat) (r : Int), k ≤ n ∧ i = .int .i64 k ∧ q = .int .i64 r ∧ r = sumTo (fun x : Int => x) zs k ∧ Below w.heap.size w wr) (fun _ i _ => n - (intOf i).toNat)
  case atStart => exact ⟨0, 0, Nat.zero_le _, rfl, rfl, (sumTo_zero _ _).symm, Below.refl _ _⟩
  case round =>
    obtain ⟨k, r, hk, rfl, rfl, hr, hbw⟩ := hrel
    obtain ⟨wY, rfl⟩ : ∃ x, x = wr := ⟨_, rfl⟩
    by_cases hlt : k < n
    · obtain ⟨b, off, rfl, _, hc⟩ := (At.below HA.out hbw).some (by have := HZ.out; omega)
      obtain ⟨y, hy⟩ : ∃ y, zs[k]? = some y := ⟨_, List.getElem?_eq_getElem (by have := HZ.out; omega)⟩
      have hcx : wY.cell? ⟨b, off + k, none⟩ = some (.int .i64 y) := by
        have h9 := hc k (by have := HZ.out; omega)
        simpa [List.getD, hy] using h9
      have hs := sumTo_succ (fun x : Int => x) hy
      have q1 := HS.out k
      have q2 := HS.out (k + 1)
      have hki : (k : Int) < (n : Int) := by omega
      have u0 : 0 ≤ r := by omega
      have u1 : r ≤ 300000000 := by omega
      have u2 : 0 ≤ r + y := by omega
      have u3 : r + y ≤ 300000000 := by omega
      have HR : Hid (r + y = sumTo (fun x : Int => x) zs (k + 1)) := Hid.mk (by omega)
      clear hc hy hs q1 q2 hr
      go_wp2
      go_roundw
      case rel => exact ⟨k + 1, _, by omega, by go_num, rfl, HR.out, hbw⟩
      case measure => simp [intOf]; omega
    · obtain rfl : k = n := by omega
      rw [HP.out] at hr
      have HR := Hid.mk hr
      clear hr
      go_wp2
      go_ret
      exact ⟨ret_int HR.out, hbw⟩

set_option maxRecDepth 100000 in
set_option maxHeartbeats 4000000 in
theorem amountsIn_any (a0 : Option Addr) (n0 c0 : Nat) (a1 : Option Addr) (n1 c1 : Nat) (ps : List TProc) (ws : List TWire) (w : World) (h0 : ps.length = n0) (h1 : ws.length = n1) (hn0 : n0 ≤ 4) (hn1 : n1 ≤ 16) (hp : PsOk ps) (hw : WsOk ws) (ha0 : AtSl RProc w a0 ps) (ha1 : AtSl RWire w a1 ws) :
    Calls Try.prog 55 #[.agg #[.slice a0 n0 c0, .slice a1 n1 c1]] w fun e w' => e = .returned (.int .i64 (pAmt ps + wAmt ws)) ∧ Below w.heap.size w w' := by
  have HS : Hid (∀ k, 0 ≤ sumTo (fun p : TProc => p.1) ps k ∧ sumTo (fun p : TProc => p.1) ps k ≤ 2000000000 * k) := Hid.mk (sumTo_le _ (by omega) (fun p h => by have := hp p h; omega))
  have HT : Hid (∀ k, 0 ≤ sumTo (fun v : TWire => v.1.sum) ws k ∧ sumTo (fun v : TWire => v.1.sum) ws k ≤ 200000000 * k) := Hid.mk (sumTo_le _ (by omega) (fun v h => by have := hw v h; omega))
  have HP : Hid (sumTo (fun p : TProc => p.1) ps n0 = pAmt ps) := Hid.mk (sumTo_all _ _ h0)
  have HQ : Hid (sumTo (fun v : TWire => v.1.sum) ws n1 = wAmt ws) := Hid.mk (sumTo_all _ _ h1)
  have H0 := Hid.mk h0
  have H1 := Hid.mk h1
  have HW := Hid.mk hw
  obtain ⟨W, hW⟩ : ∃ W, W = w.alloc (.cells #[.slice a0 n0 c0, .slice a1 n1 c1] 26) := ⟨_, rfl⟩
  have B0 : Below w.heap.size w W := by rw [hW]; exact (Below.refl _ _).alloc (Nat.le_refl _) _
  have p1 : W.cell? ⟨w.heap.size, 1, none⟩ = some (.slice a1 n1 c1) := by rw [hW]; simp
  have zW : w.heap.size < W.heap.size := by rw [hW]; simp
  have HA0 := Hid.mk (AtSl.below ha0 B0)
  have HA1 := Hid.mk (AtSl.below ha1 B0)
  clear ha0 ha1 h0 h1 hw hp
  go_enter Try.func55, Try.ntmps55
  go_wp2_with fail
  rw [← hW]
  clear hW
  go_loopw [3, 11] (fun q i wr => ∃ (k : Nat) (r : Int), k ≤ n0 ∧ i = .int .i64 k ∧ q = .int .i64 r ∧ r = sumTo (fun p : TProc => p.1) ps k ∧ Below W.heap.size W wr) (fun _ i _ => n0 - (intOf i).toNat)
  case atStart => exact ⟨0, 0, Nat.zero_le _, rfl, rfl, (sumTo_zero _ _).symm, Below.refl _ _⟩
  case round =>
    obtain ⟨k, r, hk, rfl, rfl, hr, hbw⟩ := hrel
    obtain ⟨wY, rfl⟩ : ∃ x, x = wr := ⟨_, rfl⟩
    by_cases hlt : k < n0
    · obtain ⟨b, off, rfl, _, hc⟩ := RProc.row (AtSl.below HA0.out hbw) (by have := H0.out; omega)
      obtain ⟨⟨z0, z1, bo⟩, hx⟩ : ∃ x, ps[k]? = some x := ⟨_, List.getElem?_eq_getElem (by have := H0.out; omega)⟩
      obtain ⟨g0, g1, g2, _⟩ := hc k _ hx
      have hs := sumTo_succ (fun p : TProc => p.1) hx
      have q1 := HS.out k
      have q2 := HS.out (k + 1)
      have hki : (k : Int) < (n0 : Int) := by omega
      simp only at hs
      have u0 : 0 ≤ r := by omega
      have u1 : r ≤ 9000000000 := by omega
      have u2 : 0 ≤ r + z0 := by omega
      have u3 : r + z0 ≤ 9000000000 := by omega
      have HR : Hid (r + z0 = sumTo (fun p : TProc => p.1) ps (k + 1)) := Hid.mk (by omega)
      clear hc hx hs q1 q2 hr
      go_wp2
      go_roundw
      case rel => exact ⟨k + 1, _, by omega, by go_num, rfl, HR.out, hbw.alloc hbw.size _⟩
      case measure => simp [intOf]; omega
    · obtain rfl : k = n0 := by omega
      rw [HP.out] at hr
      have hp0 := HS.out k
      rw [HP.out] at hp0
      have p1 := cell_later hbw p1
      have u0 : 0 ≤ r := by omega
      have u1 : r ≤ 8000000000 := by omega
      have HR := Hid.mk hr
      have HA1 := Hid.mk (AtSl.below HA1.out hbw)
      have BY := B0.trans (hbw.mono B0.size)
      have zY : w.heap.size < wY.heap.size := Nat.lt_of_lt_of_le zW hbw.size
      clear hr hp0 hbw
      go_wp2_with fail
      go_loopw [3, 23] (fun q i wr => ∃ (j : Nat) (s : Int), j ≤ n1 ∧ i = .int .i64 j ∧ q = .int .i64 s ∧ s = r + sumTo (fun v : TWire => v.1.sum) ws j ∧ Below wY.heap.size wY wr) (fun _ i _ => n1 - (intOf i).toNat)
      case atStart => exact ⟨0, r, Nat.zero_le _, rfl, rfl, by rw [sumTo_zero]; omega, Below.refl _ _⟩
      case round =>
        obtain ⟨j, s, hj, rfl, rfl, hs, hbv⟩ := hrel
        obtain ⟨wZ, rfl⟩ : ∃ x, x = wr := ⟨_, rfl⟩
        by_cases hjt : j < n1
        · obtain ⟨b, off, rfl, hb, hc⟩ := RWire.row (AtSl.below HA1.out hbv) (by have := H1.out; omega)
          obtain ⟨⟨x0, x1, bo⟩, hx⟩ : ∃ x, ws[j]? = some x := ⟨_, List.getElem?_eq_getElem (by have := H1.out; omega)⟩
          obtain ⟨d0, m0, e0, d1, m1, e1, g0, g1, g2, ⟨t01, t02, t03, _⟩, ⟨t11, t12, t13, _⟩⟩ := hc j _ hx
          have hok := HW.out _ (List.mem_of_getElem? hx)
          have hst := sumTo_succ (fun v : TWire => v.1.sum) hx
          have q1 := HT.out j
          have q2 := HT.out (j + 1)
          have hki : (j : Int) < (n1 : Int) := by omega
          simp only at hst hok g0 g1 g2 t01 t03 t11 t13
          obtain ⟨X, hX⟩ : ∃ X, X = wZ.alloc (.cells #[.slice d0 m0 e0, .slice d1 m1 e1, .bool bo] 74) := ⟨_, rfl⟩
          have bX : Below wZ.heap.size wZ X := by rw [hX]; exact (Below.refl _ _).alloc (Nat.le_refl _) _
          have K := Hid.mk (sumOf_any d0 m0 e0 x0 X t01 (by omega) hok.2.2.2.2.2.2.1 (At.below t03 bX))
          obtain ⟨V, hV⟩ : ∃ V, x0.sum = V := ⟨_, rfl⟩
          rw [hV] at K hst hok
          have u2 : 0 ≤ s := by omega
          have u3 : s ≤ 18000000000 := by omega
          have u4 : 0 ≤ s + V := by omega
          have u5 : s + V ≤ 18000000000 := by omega
          have HR2 : Hid (s + V = r + sumTo (fun v : TWire => v.1.sum) ws (j + 1)) := Hid.mk (by omega)
          have BX := Hid.mk (hbv.trans (bX.mono hbv.size))
          clear hc hx hst q1 q2 hs hok hV bX t01 t03 t11 t13
          go_wp2_with fail
          rw [← hX]
          clear hX
          refine K.out.mono ?_
          rintro e w9 ⟨rfl, hb9⟩
          have BX9 := Hid.mk (BX.out.trans (hb9.mono BX.out.size))
          clear hb9 K BX
          go_wp2
          go_roundw
          case rel => exact ⟨j + 1, _, by omega, by go_num, rfl, HR2.out, BX9.out⟩
          case measure => simp [intOf]; omega
        · obtain rfl : j = n1 := by omega
          rw [HQ.out] at hs
          have HS2 := Hid.mk hs
          clear hs
          go_wp2
          go_ret
          exact ⟨ret_int (by rw [HS2.out, HR.out]), BY.trans (hbv.mono BY.size)⟩

set_option maxRecDepth 100000 in
set_option maxHeartbeats 4000000 in
theorem recordedIn_any (a0 : Option Addr) (n0 c0 : Nat) (a1 : Option Addr) (n1 c1 : Nat) (ps : List TProc) (ws : List TWire) (w : World) (h0 : ps.length = n0) (h1 : ws.length = n1) (hn0 : n0 ≤ 4) (hn1 : n1 ≤ 16) (hp : PsOk ps) (hw : WsOk ws) (ha0 : AtSl RProc w a0 ps) (ha1 : AtSl RWire w a1 ws) :
    Calls Try.prog 56 #[.agg #[.slice a0 n0 c0, .slice a1 n1 c1]] w fun e w' => e = .returned (.int .i64 (pSav ps + wRec ws)) ∧ Below w.heap.size w w' := by
  have HS : Hid (∀ k, 0 ≤ sumTo (fun p : TProc => p.2.1) ps k ∧ sumTo (fun p : TProc => p.2.1) ps k ≤ 2000000000 * k) := Hid.mk (sumTo_le _ (by omega) (fun p h => by have := hp p h; omega))
  have HT : Hid (∀ k, 0 ≤ sumTo (fun v : TWire => v.2.1.sum) ws k ∧ sumTo (fun v : TWire => v.2.1.sum) ws k ≤ 200000000 * k) := Hid.mk (sumTo_le _ (by omega) (fun v h => by have := hw v h; omega))
  have HP : Hid (sumTo (fun p : TProc => p.2.1) ps n0 = pSav ps) := Hid.mk (sumTo_all _ _ h0)
  have HQ : Hid (sumTo (fun v : TWire => v.2.1.sum) ws n1 = wRec ws) := Hid.mk (sumTo_all _ _ h1)
  have H0 := Hid.mk h0
  have H1 := Hid.mk h1
  have HW := Hid.mk hw
  obtain ⟨W, hW⟩ : ∃ W, W = w.alloc (.cells #[.slice a0 n0 c0, .slice a1 n1 c1] 26) := ⟨_, rfl⟩
  have B0 : Below w.heap.size w W := by rw [hW]; exact (Below.refl _ _).alloc (Nat.le_refl _) _
  have p1 : W.cell? ⟨w.heap.size, 1, none⟩ = some (.slice a1 n1 c1) := by rw [hW]; simp
  have zW : w.heap.size < W.heap.size := by rw [hW]; simp
  have HA0 := Hid.mk (AtSl.below ha0 B0)
  have HA1 := Hid.mk (AtSl.below ha1 B0)
  clear ha0 ha1 h0 h1 hw hp
  go_enter Try.func56, Try.ntmps56
  go_wp2_with fail
  rw [← hW]
  clear hW
  go_loopw [3, 11] (fun q i wr => ∃ (k : Nat) (r : Int), k ≤ n0 ∧ i = .int .i64 k ∧ q = .int .i64 r ∧ r = sumTo (fun p : TProc => p.2.1) ps k ∧ Below W.heap.size W wr) (fun _ i _ => n0 - (intOf i).toNat)
  case atStart => exact ⟨0, 0, Nat.zero_le _, rfl, rfl, (sumTo_zero _ _).symm, Below.refl _ _⟩
  case round =>
    obtain ⟨k, r, hk, rfl, rfl, hr, hbw⟩ := hrel
    obtain ⟨wY, rfl⟩ : ∃ x, x = wr := ⟨_, rfl⟩
    by_cases hlt : k < n0
    · obtain ⟨b, off, rfl, _, hc⟩ := RProc.row (AtSl.below HA0.out hbw) (by have := H0.out; omega)
      obtain ⟨⟨z0, z1, bo⟩, hx⟩ : ∃ x, ps[k]? = some x := ⟨_, List.getElem?_eq_getElem (by have := H0.out; omega)⟩
      obtain ⟨g0, g1, g2, _⟩ := hc k _ hx
      have hs := sumTo_succ (fun p : TProc => p.2.1) hx
      have q1 := HS.out k
      have q2 := HS.out (k + 1)
      have hki : (k : Int) < (n0 : Int) := by omega
      simp only at hs
      have u0 : 0 ≤ r := by omega
      have u1 : r ≤ 9000000000 := by omega
      have u2 : 0 ≤ r + z1 := by omega
      have u3 : r + z1 ≤ 9000000000 := by omega
      have HR : Hid (r + z1 = sumTo (fun p : TProc => p.2.1) ps (k + 1)) := Hid.mk (by omega)
      clear hc hx hs q1 q2 hr
      go_wp2
      go_roundw
      case rel => exact ⟨k + 1, _, by omega, by go_num, rfl, HR.out, hbw.alloc hbw.size _⟩
      case measure => simp [intOf]; omega
    · obtain rfl : k = n0 := by omega
      rw [HP.out] at hr
      have hp0 := HS.out k
      rw [HP.out] at hp0
      have p1 := cell_later hbw p1
      have u0 : 0 ≤ r := by omega
      have u1 : r ≤ 8000000000 := by omega
      have HR := Hid.mk hr
      have HA1 := Hid.mk (AtSl.below HA1.out hbw)
      have BY := B0.trans (hbw.mono B0.size)
      have zY : w.heap.size < wY.heap.size := Nat.lt_of_lt_of_le zW hbw.size
      clear hr hp0 hbw
      go_wp2_with fail
      go_loopw [3, 23] (fun q i wr => ∃ (j : Nat) (s : Int), j ≤ n1 ∧ i = .int .i64 j ∧ q = .int .i64 s ∧ s = r + sumTo (fun v : TWire => v.2.1.sum) ws j ∧ Below wY.heap.size wY wr) (fun _ i _ => n1 - (intOf i).toNat)
      case atStart => exact ⟨0, r, Nat.zero_le _, rfl, rfl, by rw [sumTo_zero]; omega, Below.refl _ _⟩
      case round =>
        obtain ⟨j, s, hj, rfl, rfl, hs, hbv⟩ := hrel
        obtain ⟨wZ, rfl⟩ : ∃ x, x = wr := ⟨_, rfl⟩
        by_cases hjt : j < n1
        · obtain ⟨b, off, rfl, hb, hc⟩ := RWire.row (AtSl.below HA1.out hbv) (by have := H1.out; omega)
          obtain ⟨⟨x0, x1, bo⟩, hx⟩ : ∃ x, ws[j]? = some x := ⟨_, List.getElem?_eq_getElem (by have := H1.out; omega)⟩
          obtain ⟨d0, m0, e0, d1, m1, e1, g0, g1, g2, ⟨t01, t02, t03, _⟩, ⟨t11, t12, t13, _⟩⟩ := hc j _ hx
          have hok := HW.out _ (List.mem_of_getElem? hx)
          have hst := sumTo_succ (fun v : TWire => v.2.1.sum) hx
          have q1 := HT.out j
          have q2 := HT.out (j + 1)
          have hki : (j : Int) < (n1 : Int) := by omega
          simp only at hst hok g0 g1 g2 t01 t03 t11 t13
          obtain ⟨X, hX⟩ : ∃ X, X = wZ.alloc (.cells #[.slice d0 m0 e0, .slice d1 m1 e1, .bool bo] 74) := ⟨_, rfl⟩
          have bX : Below wZ.heap.size wZ X := by rw [hX]; exact (Below.refl _ _).alloc (Nat.le_refl _) _
          have K := Hid.mk (sumOf_any d1 m1 e1 x1 X t11 (by omega) hok.2.2.2.2.2.2.2 (At.below t13 bX))
          obtain ⟨V, hV⟩ : ∃ V, x1.sum = V := ⟨_, rfl⟩
          rw [hV] at K hst hok
          have u2 : 0 ≤ s := by omega
          have u3 : s ≤ 18000000000 := by omega
          have u4 : 0 ≤ s + V := by omega
          have u5 : s + V ≤ 18000000000 := by omega
          have HR2 : Hid (s + V = r + sumTo (fun v : TWire => v.2.1.sum) ws (j + 1)) := Hid.mk (by omega)
          have BX := Hid.mk (hbv.trans (bX.mono hbv.size))
          clear hc hx hst q1 q2 hs hok hV bX t01 t03 t11 t13
          go_wp2_with fail
          rw [← hX]
          clear hX
          refine K.out.mono ?_
          rintro e w9 ⟨rfl, hb9⟩
          have BX9 := Hid.mk (BX.out.trans (hb9.mono BX.out.size))
          clear hb9 K BX
          go_wp2
          go_roundw
          case rel => exact ⟨j + 1, _, by omega, by go_num, rfl, HR2.out, BX9.out⟩
          case measure => simp [intOf]; omega
        · obtain rfl : j = n1 := by omega
          rw [HQ.out] at hs
          have HS2 := Hid.mk hs
          clear hs
          go_wp2
          go_ret
          exact ⟨ret_int (by rw [HS2.out, HR.out]), BY.trans (hbv.mono BY.size)⟩

end Go.Proofs.Ythfndafgllcelaa
