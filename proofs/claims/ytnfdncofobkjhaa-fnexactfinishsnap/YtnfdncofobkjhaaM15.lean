/- Several texts of one proof, in build order: NapQ, NapS. -/
import Derived.Test.YtnfdncofobkjhaaM4
import Derived.Test.YtnfdncofobkjhaaM13
import Derived.Test.YtnfdncofobkjhaaM14

/- Plain: all sums of a snap at once. -/
namespace Go.Proofs.Ytnfdncofobkjhaa
open Go.RowKit

theorem map_add {α : Type} (f g : α → Int) (xs : List α) : (xs.map (fun x => f x + g x)).sum = (xs.map f).sum + (xs.map g).sum := by
  induction xs with
  | nil => rfl
  | cons x xs ih => simp only [List.map_cons, List.sum_cons, ih]; omega
theorem tot_eq (ps : List TProc) (ws : List TWire) : (ps.map (fun p : TProc => p.1 + p.2.1)).sum + (ws.map (fun v : TWire => v.1.sum + v.2.1.sum)).sum = amtS (ps, ws) + recS (ps, ws) := by
  have h1 := map_add (fun p : TProc => p.1) (fun p : TProc => p.2.1) ps
  have h2 := map_add (fun v : TWire => v.1.sum) (fun v : TWire => v.2.1.sum) ws
  have e1 : amtS (ps, ws) = (ps.map (fun p : TProc => p.1)).sum + (ws.map (fun v : TWire => v.1.sum)).sum := rfl
  have e2 : recS (ps, ws) = (ps.map (fun p : TProc => p.2.1)).sum + (ws.map (fun v : TWire => v.2.1.sum)).sum := rfl
  omega

end Go.Proofs.Ytnfdncofobkjhaa

/- Contract of the model's GoodSnap. -/
namespace Go.Proofs.Ytnfdncofobkjhaa
open Go.RowKit

theorem l15Amount_any (x : Int) (w : World) :
    Calls Try.prog 54 #[.int .i64 x] w fun e w' => e = .returned (.bool (wdB x)) ∧ w' = w := by
  have K := Hid.mk (l1In_any x 0 1000000 w)
  go_enter Try.func54, Try.ntmps54
  go_wp2_with fail
  refine K.out.mono ?_
  rintro e w1 ⟨rfl, hw⟩
  obtain rfl := hw.symm
  go_wp2
  go_ret
  exact ⟨rfl, rfl⟩
theorem all_row {α : Type} {P : α → Bool} {xs : List α} {k : Nat} {x : α} (h : xs[k]? = some x) : (xs.drop k).all P = (P x && (xs.drop (k + 1)).all P) := by
  have hk := (List.getElem?_eq_some_iff.1 h).1
  rw [List.drop_eq_getElem_cons hk, (List.getElem?_eq_some_iff.1 h).2, List.all_cons]

set_option maxRecDepth 100000 in
set_option maxHeartbeats 16000000 in
theorem specGoodSnap (a0 : Option Addr) (n0 c0 : Nat) (a1 : Option Addr) (n1 c1 : Nat) (ps : List TProc) (ws : List TWire) (w : World) (h0 : ps.length = n0) (h1 : ws.length = n1) (hb0 : n0 ≤ 1048576) (hb1 : n1 ≤ 1048576) (hsm : ∀ (i : Nat) (x : TWire), ws[i]? = some x → costWire x ≤ 1048576) (ha0 : AtSl RProc w a0 ps) (ha1 : AtSl RWire w a1 ws) :
    Calls Try.prog 30 #[.agg #[.slice a0 n0 c0, .slice a1 n1 c1]] w fun e w' => e = .returned (.bool (gsB (ps, ws))) ∧ Below w.heap.size w w' := by
  have HSM := Hid.mk hsm
  clear hsm
  have HTOT := Hid.mk (tot_eq ps ws)
  have HTP : Hid (sumTo (fun p : TProc => p.1 + p.2.1) ps n0 = (ps.map (fun p : TProc => p.1 + p.2.1)).sum) := Hid.mk (sumTo_all _ _ h0)
  have HTW : Hid (sumTo (fun v : TWire => v.1.sum + v.2.1.sum) ws n1 = (ws.map (fun v : TWire => v.1.sum + v.2.1.sum)).sum) := Hid.mk (sumTo_all _ _ h1)
  have HV : Hid (gsB (ps, ws) = (decide (2 ≤ n0) && decide (n0 ≤ 4) && decide (n1 = n0 * n0) && ps.all prB && wsB n0 ps 0 ws && decide (amtS (ps, ws) + recS (ps, ws) ≤ 2000000000))) := Hid.mk (by unfold gsB; simp only [h0, h1])
  have H0 := Hid.mk h0
  have H1 := Hid.mk h1
  obtain ⟨W, hW⟩ : ∃ W, W = w.alloc (.cells #[.slice a0 n0 c0, .slice a1 n1 c1] 32) := ⟨_, rfl⟩
  have B0 : Below w.heap.size w W := by rw [hW]; exact (Below.refl _ _).alloc (Nat.le_refl _) _
  have p0 : W.cell? ⟨w.heap.size, 0, none⟩ = some (.slice a0 n0 c0) := by rw [hW]; simp
  have p1 : W.cell? ⟨w.heap.size, 1, none⟩ = some (.slice a1 n1 c1) := by rw [hW]; simp
  have zW : w.heap.size < W.heap.size := by rw [hW]; simp
  have HA0 := Hid.mk (AtSl.below ha0 B0)
  have HA1 := Hid.mk (AtSl.below ha1 B0)
  have KM := Hid.mk (l1In_any (n0 : Int) 2 4 W)
  clear ha0 ha1 h0 h1
  by_cases hm : 2 ≤ n0 ∧ n0 ≤ 4
  rotate_left
  · have hmf : (decide (2 ≤ (n0 : Int)) && decide ((n0 : Int) ≤ 4)) = false := by simp only [Bool.and_eq_false_iff, decide_eq_false_iff_not]; omega
    have hmg : (decide (2 ≤ n0) && decide (n0 ≤ 4)) = false := by simp only [Bool.and_eq_false_iff, decide_eq_false_iff_not]; omega
    rw [hmf] at KM
    rw [hmg] at HV
    clear hmf hmg hm
    go_enter Try.func30, Try.ntmps30
    go_wp2_with fail
    rw [← hW]
    clear hW
    refine KM.out.mono ?_
    rintro e w0 ⟨rfl, hw0⟩
    obtain rfl := hw0.symm
    go_wp2
    go_ret
    exact ⟨ret_bool (by rw [HV.out]; simp), B0⟩
  have hmf : (decide (2 ≤ (n0 : Int)) && decide ((n0 : Int) ≤ 4)) = true := by simp only [Bool.and_eq_true, decide_eq_true_eq]; omega
  have hmg : (decide (2 ≤ n0) && decide (n0 ≤ 4)) = true := by simp only [Bool.and_eq_true, decide_eq_true_eq]; omega
  rw [hmf] at KM
  rw [hmg] at HV
  obtain ⟨m0, m1⟩ := hm
  clear hmf hmg
  obtain ⟨Q, hQ⟩ : ∃ Q : Nat, n0 * n0 = Q := ⟨_, rfl⟩
  have hQ16 : Q ≤ 16 := by rw [← hQ]; exact Nat.mul_le_mul m1 m1
  have hmul : (n0 : Int) * (n0 : Int) = (Q : Int) := by rw [← hQ]; push_cast; rfl
  rw [hQ] at HV
  have HQQ := Hid.mk hQ
  clear hQ
  by_cases hq : n1 = Q
  rotate_left
  · have hqi : ((n1 : Int) != (Q : Int)) = true := by simp; omega
    rw [decide_eq_false hq] at HV
    clear hq
    go_enter Try.func30, Try.ntmps30
    go_wp2_with fail
    rw [← hW]
    clear hW
    refine KM.out.mono ?_
    rintro e w0 ⟨rfl, hw0⟩
    obtain rfl := hw0.symm
    go_wp2
    go_ret
    exact ⟨ret_bool (by rw [HV.out]; simp), B0⟩
  subst hq
  rw [decide_eq_true rfl] at HV
  have hsq : n1 ≤ 16 := hQ16
  clear hQ16
  go_enter Try.func30, Try.ntmps30
  go_wp2_with fail
  rw [← hW]
  clear hW
  refine KM.out.mono ?_
  rintro e w0 ⟨rfl, hw0⟩
  obtain rfl := hw0.symm
  go_wp2_with fail
  go_loopw [4, 31] (fun q i wr => ∃ (k : Nat) (r : Int), k ≤ n0 ∧ i = .int .i64 k ∧ q = .int .i64 r ∧ r = sumTo (fun p : TProc => p.1 + p.2.1) ps k ∧ 0 ≤ r ∧ r ≤ 4000000000 * k ∧ ps.all prB = (ps.drop k).all prB ∧ Below W.heap.size W wr) (fun _ i _ => n0 - (intOf i).toNat)
  case atStart => exact ⟨0, 0, Nat.zero_le _, rfl, rfl, (sumTo_zero _ _).symm, by omega, by omega, rfl, Below.refl _ _⟩
  case round =>
    obtain ⟨k, r, hk, rfl, rfl, hr, hr0, hr1, ht, hbw⟩ := hrel
    obtain ⟨wY, rfl⟩ : ∃ x, x = wr := ⟨_, rfl⟩
    by_cases hlt : k < n0
    · obtain ⟨b, off, rfl, _, hc⟩ := RProc.row (AtSl.below HA0.out hbw) (by have := H0.out; omega)
      obtain ⟨⟨z0, z1, bo⟩, hx⟩ : ∃ x, ps[k]? = some x := ⟨_, List.getElem?_eq_getElem (by have := H0.out; omega)⟩
      obtain ⟨g0, g1, g2, _⟩ := hc k _ hx
      rw [all_row hx] at ht
      have hs := sumTo_succ (fun p : TProc => p.1 + p.2.1) hx
      have hki : (k : Int) < (n0 : Int) := by omega
      simp only at g0 g1 g2 hs
      obtain ⟨X, hX⟩ : ∃ X, X = wY.alloc (.cells #[.int .i64 z0, .int .i64 z1, .bool bo] 74) := ⟨_, rfl⟩
      have bX : Below wY.heap.size wY X := by rw [hX]; exact (Below.refl _ _).alloc (Nat.le_refl _) _
      have s0 : X.cell? ⟨wY.heap.size, 0, none⟩ = some (.int .i64 z0) := by rw [hX]; simp
      have s1 : X.cell? ⟨wY.heap.size, 1, none⟩ = some (.int .i64 z1) := by rw [hX]; simp
      have s2 : X.cell? ⟨wY.heap.size, 2, none⟩ = some (.bool bo) := by rw [hX]; simp
      have K0 := Hid.mk (fun w => l1In_any z0 0 2000000000 w)
      have K1 := Hid.mk (fun w => l1In_any z1 0 2000000000 w)
      have e0 : (decide (0 ≤ z0) && decide (z0 ≤ 2000000000)) = amB z0 := rfl
      have e1 : (decide (0 ≤ z1) && decide (z1 ≤ 2000000000)) = amB z1 := rfl
      rw [e0] at K0
      rw [e1] at K1
      have hpr : prB (z0, z1, bo) = (amB z0 && amB z1 && (bo || decide (z1 = 0))) := rfl
      rw [hpr] at ht
      have HT := Hid.mk ht
      have HR := Hid.mk hr
      have HSS := Hid.mk hs
      have BX := Hid.mk (hbw.trans (bX.mono hbw.size))
      clear hc hx ht hr hs e0 e1 hpr bX hbw
      cases ha : amB z0 with
      | false =>
        rw [ha] at K0
        clear hr1
        go_wp2_with fail
        rw [← hX]
        clear hX
        refine (K0.out _).mono ?_
        rintro e w5 ⟨rfl, hw5⟩
        obtain rfl := hw5.symm
        go_wp2
        go_ret
        exact ⟨ret_bool (by rw [HV.out, HT.out, ha]; simp), B0.trans (BX.out.mono B0.size)⟩
      | true =>
        rw [ha] at K0
        cases hb : amB z1 with
        | false =>
          rw [hb] at K1
          clear hr1
          go_wp2_with fail
          rw [← hX]
          clear hX
          refine (K0.out _).mono ?_
          rintro e w5 ⟨rfl, hw5⟩
          obtain rfl := hw5.symm
          go_wp2_with fail
          refine (K1.out _).mono ?_
          rintro e w5 ⟨rfl, hw5⟩
          obtain rfl := hw5.symm
          go_wp2
          go_ret
          exact ⟨ret_bool (by rw [HV.out, HT.out, ha, hb]; simp), B0.trans (BX.out.mono B0.size)⟩
        | true =>
          rw [hb] at K1
          cases bo with
          | true =>
            have hzb := amB_iff.1 ha
            have hzc := amB_iff.1 hb
            have u1 : r ≤ 16000000000 := by omega
            have u2 : 0 ≤ r + (z0 + z1) := by omega
            have u3 : r + (z0 + z1) ≤ 20000000000 := by omega
            have v1 : 0 ≤ z0 + z1 := by omega
            have v2 : z0 + z1 ≤ 4000000000 := by omega
            have HR2 : Hid (r + (z0 + z1) = sumTo (fun p : TProc => p.1 + p.2.1) ps (k + 1)) := Hid.mk (by have q1 := HR.out; have q2 := HSS.out; omega)
            have HB2 : Hid (r + (z0 + z1) ≤ 4000000000 * ((k + 1 : Nat) : Int)) := Hid.mk (by push_cast; omega)
            clear hr1 hzb hzc
            go_wp2_with fail
            rw [← hX]
            clear hX
            refine (K0.out _).mono ?_
            rintro e w5 ⟨rfl, hw5⟩
            obtain rfl := hw5.symm
            go_wp2_with fail
            refine (K1.out _).mono ?_
            rintro e w5 ⟨rfl, hw5⟩
            obtain rfl := hw5.symm
            go_wp2
            go_roundw
            case rel => exact ⟨k + 1, _, by omega, by go_num, rfl, HR2.out, u2, HB2.out, by rw [HT.out, ha, hb]; simp, BX.out⟩
            case measure => simp [intOf]; omega
          | false =>
            by_cases hz : z1 = 0
            · have hz1 : (z1 != 0) = false := by simp [hz]
              have hz2 : decide (z1 = 0) = true := decide_eq_true hz
              rw [hz2] at HT
              clear hz hz2
              have hzb := amB_iff.1 ha
              have hzc := amB_iff.1 hb
              have u1 : r ≤ 16000000000 := by omega
              have u2 : 0 ≤ r + (z0 + z1) := by omega
              have u3 : r + (z0 + z1) ≤ 20000000000 := by omega
              have v1 : 0 ≤ z0 + z1 := by omega
              have v2 : z0 + z1 ≤ 4000000000 := by omega
              have HR2 : Hid (r + (z0 + z1) = sumTo (fun p : TProc => p.1 + p.2.1) ps (k + 1)) := Hid.mk (by have q1 := HR.out; have q2 := HSS.out; omega)
              have HB2 : Hid (r + (z0 + z1) ≤ 4000000000 * ((k + 1 : Nat) : Int)) := Hid.mk (by push_cast; omega)
              clear hr1 hzb hzc
              go_wp2_with fail
              rw [← hX]
              clear hX
              refine (K0.out _).mono ?_
              rintro e w5 ⟨rfl, hw5⟩
              obtain rfl := hw5.symm
              go_wp2_with fail
              refine (K1.out _).mono ?_
              rintro e w5 ⟨rfl, hw5⟩
              obtain rfl := hw5.symm
              go_wp2
              go_roundw
              case rel => exact ⟨k + 1, _, by omega, by go_num, rfl, HR2.out, u2, HB2.out, by rw [HT.out, ha, hb]; simp, BX.out⟩
              case measure => simp [intOf]; omega
            · have hz1 : (z1 != 0) = true := by simp [hz]
              have hz2 : decide (z1 = 0) = false := decide_eq_false hz
              rw [hz2] at HT
              clear hr1 hz hz2
              go_wp2_with fail
              rw [← hX]
              clear hX
              refine (K0.out _).mono ?_
              rintro e w5 ⟨rfl, hw5⟩
              obtain rfl := hw5.symm
              go_wp2_with fail
              refine (K1.out _).mono ?_
              rintro e w5 ⟨rfl, hw5⟩
              obtain rfl := hw5.symm
              go_wp2
              go_ret
              exact ⟨ret_bool (by rw [HV.out, HT.out, ha, hb]; simp), B0.trans (BX.out.mono B0.size)⟩
    · rw [List.drop_of_length_le (by have := H0.out; omega)] at ht
      obtain rfl : k = n0 := by omega
      have hall : ps.all prB = true := ht
      have HP := Hid.mk (psOk_of hall)
      rw [hall] at HV
      rw [HTP.out] at hr
      have HRP := Hid.mk hr
      have p0 := cell_later hbw p0
      have p1 := cell_later hbw p1
      have HA0 := Hid.mk (AtSl.below HA0.out hbw)
      have HA1 := Hid.mk (AtSl.below HA1.out hbw)
      have BY := Hid.mk (B0.trans (hbw.mono B0.size))
      have rb : r ≤ 16000000000 := by omega
      clear hall ht hr hr1 hbw KM
      go_wp2_with fail
      go_loopw [4, 66] (fun q i wr => ∃ (j : Nat) (s : Int), j ≤ n1 ∧ i = .int .i64 j ∧ q = .int .i64 s ∧ s = r + sumTo (fun v : TWire => v.1.sum + v.2.1.sum) ws j ∧ 0 ≤ s ∧ s ≤ 16000000000 + 212000000 * j ∧ wsB k ps 0 ws = wsB k ps j (ws.drop j) ∧ Below wY.heap.size wY wr) (fun _ i _ => n1 - (intOf i).toNat)
      case atStart => exact ⟨0, r, Nat.zero_le _, rfl, rfl, by rw [sumTo_zero]; omega, hr0, by omega, rfl, Below.refl _ _⟩
      case round =>
        obtain ⟨j, s, hj, rfl, rfl, hs, hs0, hs1, ht, hbv⟩ := hrel
        obtain ⟨wZ, rfl⟩ : ∃ x, x = wr := ⟨_, rfl⟩
        have p0 := cell_later hbv p0
        have p1 := cell_later hbv p1
        by_cases hjt : j < n1
        · obtain ⟨b, off, rfl, _, hc⟩ := RWire.row (AtSl.below HA1.out hbv) (by have := H1.out; omega)
          obtain ⟨⟨x0, x1, bo⟩, hx⟩ : ∃ x, ws[j]? = some x := ⟨_, List.getElem?_eq_getElem (by have := H1.out; omega)⟩
          obtain ⟨d0, l0, e0, d1, l1, e1, g0, g1, g2, t0, t1⟩ := hc j _ hx
          have hR : j % k < k := Nat.mod_lt _ (by omega)
          obtain ⟨bp, offp, rfl, _, hcp⟩ := RProc.row (AtSl.below HA0.out hbv) (by have := H0.out; omega)
          obtain ⟨⟨z0, z1, dn⟩, hxp⟩ : ∃ x, ps[j % k]? = some x := ⟨_, List.getElem?_eq_getElem (by have := H0.out; omega)⟩
          obtain ⟨_, _, gd, _⟩ := hcp _ _ hxp
          have hdn : dnB ps (j % k) = dn := by unfold dnB; rw [getD_row hxp]
          rw [wsB_step hx] at ht
          have hsw := HSM.out _ _ hx
          have hsl := smallWire t0.1 t1.1 hsw
          have hss := sumTo_succ (fun v : TWire => v.1.sum + v.2.1.sum) hx
          have hat : atB k ps j (x0, x1, bo) = (wiB (x0, x1, bo) && !(decide (j / k = j % k) && usB (x0, x1, bo)) && !(!dn && rcB (x0, x1, bo))) := by unfold atB; rw [hdn]
          have hus : usB (x0, x1, bo) = (decide (0 < l0) || (bo || decide (0 < l1))) := by unfold usB hwB rcB; simp only [t0.1, t1.1]
          have hrc : rcB (x0, x1, bo) = (bo || decide (0 < l1)) := by unfold rcB; simp only [t1.1]
          have hwi : wiB (x0, x1, bo) = (decide (l0 ≤ 12) && x0.all wdB && decide (l1 ≤ 200) && x1.all stB) := by unfold wiB; simp only [t0.1, t1.1]
          rw [hat, hus, hrc, hwi] at ht
          have hqk : j / k ≤ j := Nat.div_le_self _ _
          have hq := quo_nat j k
          have hr := rem_nat j k
          obtain ⟨q, hqq⟩ : ∃ q, j / k = q := ⟨_, rfl⟩
          obtain ⟨rr, hrr⟩ : ∃ r, j % k = r := ⟨_, rfl⟩
          rw [hqq] at ht hq hqk
          rw [hrr] at ht hr gd hR
          have hw64 : wrap64 (q : Int) = (q : Int) := by clear hq hr hqq hrr; exact IntWalk.wrap64_in _ (by omega)
          have hn0 : (k : Int) ≠ 0 := by omega
          have hki : (j : Int) < (n1 : Int) := by omega
          have hri : (rr : Int) < (k : Int) := by omega
          simp only at g0 g1 g2 gd hss
          obtain ⟨X, hX⟩ : ∃ X, X = wZ.alloc (.cells #[.slice d0 l0 e0, .slice d1 l1 e1, .bool bo] 76) := ⟨_, rfl⟩
          have bX : Below wZ.heap.size wZ X := by rw [hX]; exact (Below.refl _ _).alloc (Nat.le_refl _) _
          have s1 : X.cell? ⟨wZ.heap.size, 1, none⟩ = some (.slice d1 l1 e1) := by rw [hX]; simp
          have s0 : X.cell? ⟨wZ.heap.size, 0, none⟩ = some (.slice d0 l0 e0) := by rw [hX]; simp
          have s2 : X.cell? ⟨wZ.heap.size, 2, none⟩ = some (.bool bo) := by rw [hX]; simp
          have p0 := cell_later bX p0
          have gd := cell_later bX gd
          have HT := Hid.mk ht
          have HS := Hid.mk hs
          have HSS := Hid.mk hss
          have HL0 := Hid.mk t0.1
          have HL1 := Hid.mk t1.1
          have HD0 := Hid.mk (At.below t0.2.2.1 bX)
          have HD1 := Hid.mk (At.below t1.2.2.1 bX)
          have hl0 : l0 ≤ 1048576 := hsl.1
          have hl1 : l1 ≤ 1048576 := hsl.2
          have HB := Hid.mk hs1
          have sb : s ≤ 20000000000 := by omega
          have BX := Hid.mk (BY.out.trans ((hbv.trans (bX.mono hbv.size)).mono BY.out.size))
          have BXV := Hid.mk (hbv.trans (bX.mono hbv.size))
          have HQR := Hid.mk (And.intro hq hr)
          clear hc hcp hx hxp ht hat hus hrc hwi hdn hqq hrr bX t0 t1 hbv hs hss hsl hsw hs1 hq hr hqk
          go_wp2_with fail
          rw [← hX]
          clear hX
          go_loopw [4, 74] (fun q i wr => ∃ (i' : Nat) (t : Int), i' ≤ l0 ∧ i = .int .i64 i' ∧ q = .int .i64 t ∧ t = s + sumTo (fun x : Int => x) x0 i' ∧ 0 ≤ t ∧ t ≤ 20000000000 + 1000000 * i' ∧ x0.all wdB = (x0.drop i').all wdB ∧ (∀ m : Nat, (∀ x ∈ x0.take i', 0 ≤ x ∧ x ≤ 1000000)) ∧ wr = X) (fun _ i _ => l0 - (intOf i).toNat)
          case atStart => exact ⟨0, s, Nat.zero_le _, rfl, rfl, by rw [sumTo_zero]; omega, hs0, by omega, rfl, fun _ x hx => by simp at hx, rfl⟩
          case round =>
            obtain ⟨i', t, hi, rfl, rfl, hts, ht0, ht1, hta, htk, hwX⟩ := hrel
            obtain rfl := hwX.symm
            by_cases hit : i' < l0
            · obtain ⟨bb, offb, rfl, _, hcc⟩ := HD0.out.some (by have := HL0.out; omega)
              obtain ⟨y, hy⟩ : ∃ y, x0[i']? = some y := ⟨_, List.getElem?_eq_getElem (by have := HL0.out; omega)⟩
              have hcx : X.cell? ⟨bb, offb + i', none⟩ = some (.int .i64 y) := by
                have h9 := hcc i' (by have := HL0.out; omega)
                simpa [List.getD, hy] using h9
              rw [all_row hy] at hta
              have hsu := sumTo_succ (fun x : Int => x) hy
              have hii : (i' : Int) < (l0 : Int) := by omega
              have KA := Hid.mk (l15Amount_any y X)
              have HTA := Hid.mk hta
              have HTK : Hid (wdB y = true → ∀ x ∈ x0.take (i' + 1), 0 ≤ x ∧ x ≤ 1000000) := Hid.mk (fun h x hx => by
                have hk2 := (List.getElem?_eq_some_iff.1 hy).1
                rw [List.take_succ_eq_append_getElem hk2, List.mem_append] at hx
                rcases hx with hx | hx
                · exact htk 0 x hx
                · rw [(List.getElem?_eq_some_iff.1 hy).2] at hx
                  rw [List.mem_singleton.1 hx]
                  exact wdB_le h)
              clear hcc hy hta htk
              cases hwd : wdB y with
              | false =>
                rw [hwd] at KA
                clear hts hsu
                go_wp2_with fail
                refine KA.out.mono ?_
                rintro e w4 ⟨rfl, hw4⟩
                obtain rfl := hw4.symm
                go_wp2
                go_ret
                exact ⟨ret_bool (by rw [HV.out, HT.out, HTA.out, hwd]; simp), BX.out⟩
              | true =>
                rw [hwd] at KA
                have hyb := wdB_le hwd
                have u1 : t ≤ 2000000000000 := by omega
                have u2 : 0 ≤ t + y := by omega
                have u3 : t + y ≤ 2000000000000 := by omega
                have HS3 : Hid (t + y = s + sumTo (fun x : Int => x) x0 (i' + 1)) := Hid.mk (by omega)
                have HB3 : Hid (t + y ≤ 20000000000 + 1000000 * ((i' + 1 : Nat) : Int)) := Hid.mk (by push_cast; omega)
                clear hts hsu hyb ht1
                go_wp2_with fail
                refine KA.out.mono ?_
                rintro e w4 ⟨rfl, hw4⟩
                obtain rfl := hw4.symm
                go_wp2
                go_roundw
                case rel => exact ⟨i' + 1, _, by omega, by go_num, rfl, HS3.out, u2, HB3.out, by rw [HTA.out, hwd]; rfl, fun _ => HTK.out hwd, (by first | exact rfl | trivial)⟩
                case measure => simp [intOf]; omega
            · obtain rfl : i' = l0 := by omega
              have hw0 : x0.all wdB = true := by rw [hta, List.drop_of_length_le (by have := HL0.out; omega)]; rfl
              rw [hw0] at HT
              have hS0 : t = s + x0.sum := by
                rw [hts]
                have q9 := sumTo_all (fun x : Int => x) x0 HL0.out
                rw [q9]
                simp
              have h0b := sum_all (fun _ => wdB_le) hw0
              rw [HL0.out] at h0b
              have HS4 := Hid.mk hS0
              have H0B := Hid.mk h0b
              have tb : t ≤ 2000000000000 := by omega
              clear hts hta htk hw0 hS0 h0b ht1
              go_wp2_with fail
              go_loopw [4, 88] (fun q i wr => ∃ (m' : Nat) (u : Int), m' ≤ l1 ∧ i = .int .i64 m' ∧ q = .int .i64 u ∧ u = t + sumTo (fun x : Int => x) x1 m' ∧ 0 ≤ u ∧ u ≤ 2000000000000 + 1000000 * m' ∧ x1.all stB = (x1.drop m').all stB ∧ wr = X) (fun _ i _ => l1 - (intOf i).toNat)
              case atStart => exact ⟨0, t, Nat.zero_le _, rfl, rfl, by rw [sumTo_zero]; omega, ht0, by omega, rfl, rfl⟩
              case round =>
                obtain ⟨m', u, hm', rfl, rfl, hus, hu0, hu1, hua, hwX⟩ := hrel
                obtain rfl := hwX.symm
                by_cases hmt : m' < l1
                · obtain ⟨bb, offb, rfl, _, hcc⟩ := HD1.out.some (by have := HL1.out; omega)
                  obtain ⟨y, hy⟩ : ∃ y, x1[m']? = some y := ⟨_, List.getElem?_eq_getElem (by have := HL1.out; omega)⟩
                  have hcx : X.cell? ⟨bb, offb + m', none⟩ = some (.int .i64 y) := by
                    have h9 := hcc m' (by have := HL1.out; omega)
                    simpa [List.getD, hy] using h9
                  rw [all_row hy] at hua
                  have hsu := sumTo_succ (fun x : Int => x) hy
                  have hii : (m' : Int) < (l1 : Int) := by omega
                  have KA := Hid.mk (l15Amount_any y X)
                  have HUA := Hid.mk hua
                  clear hcc hy hua
                  by_cases hy0 : y = 0
                  · subst hy0
                    clear hus hsu
                    go_wp2
                    go_ret
                    exact ⟨ret_bool (by rw [HV.out, HT.out, HUA.out, show stB 0 = false from rfl]; simp), BX.out⟩
                  · have hy0b : (y == 0) = false := beq_eq_false_iff_ne.2 hy0
                    have hst : stB y = wdB y := by unfold wdB stB; rw [Bool.eq_iff_iff]; simp only [Bool.and_eq_true, decide_eq_true_eq]; omega
                    rw [hst] at HUA
                    clear hy0 hst
                    cases hwd : wdB y with
                    | false =>
                      rw [hwd] at KA
                      clear hus hsu
                      go_wp2_with fail
                      refine KA.out.mono ?_
                      rintro e w4 ⟨rfl, hw4⟩
                      obtain rfl := hw4.symm
                      go_wp2
                      go_ret
                      exact ⟨ret_bool (by rw [HV.out, HT.out, HUA.out, hwd]; simp), BX.out⟩
                    | true =>
                      rw [hwd] at KA
                      have hyb := wdB_le hwd
                      have u1 : u ≤ 4000000000000 := by omega
                      have u2 : 0 ≤ u + y := by omega
                      have u3 : u + y ≤ 4000000000000 := by omega
                      have HS3 : Hid (u + y = t + sumTo (fun x : Int => x) x1 (m' + 1)) := Hid.mk (by omega)
                      have HB3 : Hid (u + y ≤ 2000000000000 + 1000000 * ((m' + 1 : Nat) : Int)) := Hid.mk (by push_cast; omega)
                      clear hus hsu hyb hu1
                      go_wp2_with fail
                      refine KA.out.mono ?_
                      rintro e w4 ⟨rfl, hw4⟩
                      obtain rfl := hw4.symm
                      go_wp2
                      go_roundw
                      case rel => exact ⟨m' + 1, _, by omega, by go_num, rfl, HS3.out, u2, HB3.out, by rw [HUA.out, hwd]; rfl, (by first | exact rfl | trivial)⟩
                      case measure => simp [intOf]; omega
                · obtain rfl : m' = l1 := by omega
                  have hw1 : x1.all stB = true := by rw [hua, List.drop_of_length_le (by have := HL1.out; omega)]; rfl
                  rw [hw1] at HT
                  have hS1 : u = s + (x0.sum + x1.sum) := by
                    rw [hus, HS4.out]
                    have q9 := sumTo_all (fun x : Int => x) x1 HL1.out
                    rw [q9]
                    simp
                    omega
                  have h1b := sum_all (fun _ => stB_le) hw1
                  rw [HL1.out] at h1b
                  have h0b := H0B.out
                  have HU : Hid (u = r + sumTo (fun v : TWire => v.1.sum + v.2.1.sum) ws (j + 1)) := Hid.mk (by have q1 := HS.out; have q2 := HSS.out; omega)
                  have HU2 : Hid (i' ≤ 12 → m' ≤ 200 → u ≤ 16000000000 + 212000000 * ((j + 1 : Nat) : Int)) := Hid.mk (fun _ _ => by have := HB.out; push_cast; omega)
                  have hq := HQR.out.1
                  have hr := HQR.out.2
                  clear hus hua hw1 hS1 h1b h0b hu1 HQR
                  by_cases c0 : 12 < i'
                  · have c0' : (12 : Int) < (i' : Int) := by omega
                    have dc0 : decide ((12 : Int) < (i' : Int)) = true := decide_eq_true c0'
                    have f0 : decide (i' ≤ 12) = false := decide_eq_false (by omega)
                    go_wp2_with fail
                    go_quiet (fail)
                    go_wp2
                    go_ret
                    exact ⟨ret_bool (by rw [HV.out, HT.out, f0]; simp), below_drewN BX.out _⟩
                  have c0' : ¬ (12 : Int) < (i' : Int) := by omega
                  have dc0 : decide ((12 : Int) < (i' : Int)) = false := decide_eq_false c0'
                  have f0 : decide (i' ≤ 12) = true := decide_eq_true (by omega)
                  by_cases c1 : 200 < m'
                  · have c1' : (200 : Int) < (m' : Int) := by omega
                    have dc1 : decide ((200 : Int) < (m' : Int)) = true := decide_eq_true c1'
                    have f1 : decide (m' ≤ 200) = false := decide_eq_false (by omega)
                    go_wp2_with fail
                    go_quiet (fail)
                    go_wp2
                    go_ret
                    exact ⟨ret_bool (by rw [HV.out, HT.out, f0, f1]; simp), below_drewN BX.out _⟩
                  have c1' : ¬ (200 : Int) < (m' : Int) := by omega
                  have dc1 : decide ((200 : Int) < (m' : Int)) = false := decide_eq_false c1'
                  have f1 : decide (m' ≤ 200) = true := decide_eq_true (by omega)
                  rw [f0, f1] at HT
                  clear c0 c1 f0 f1
                  by_cases hqr : q = rr
                  · have hqi : ((q : Int) == (rr : Int)) = true := by rw [hqr]; exact beq_self_eq_true _
                    rw [decide_eq_true hqr] at HT
                    clear hqr
                    by_cases z0 : 0 < i'
                    · have z0' : (0 : Int) < (i' : Int) := by omega
                      have dz0 : decide ((0 : Int) < (i' : Int)) = true := decide_eq_true z0'
                      rw [decide_eq_true z0] at HT
                      go_wp2_with fail
                      go_quiet (fail)
                      go_wp2
                      go_ret
                      exact ⟨ret_bool (by rw [HV.out, HT.out]; simp), below_drewN BX.out _⟩
                    rw [decide_eq_false z0] at HT
                    have z0' : ¬ (0 : Int) < (i' : Int) := by omega
                    have dz0 : decide ((0 : Int) < (i' : Int)) = false := decide_eq_false z0'
                    by_cases z1 : 0 < m'
                    · have z1' : (0 : Int) < (m' : Int) := by omega
                      have dz1 : decide ((0 : Int) < (m' : Int)) = true := decide_eq_true z1'
                      rw [decide_eq_true z1] at HT
                      go_wp2_with fail
                      go_quiet (fail)
                      go_wp2
                      go_ret
                      exact ⟨ret_bool (by rw [HV.out, HT.out]; simp), below_drewN BX.out _⟩
                    rw [decide_eq_false z1] at HT
                    have z1' : ¬ (0 : Int) < (m' : Int) := by omega
                    have dz1 : decide ((0 : Int) < (m' : Int)) = false := decide_eq_false z1'
                    cases bo with
                    | true =>
                      go_wp2_with fail
                      go_quiet (fail)
                      go_wp2
                      go_ret
                      exact ⟨ret_bool (by rw [HV.out, HT.out]; simp), below_drewN BX.out _⟩
                    | false =>
                      cases dn with
                      | true =>
                        go_wp2_with fail
                        go_quiet (fail)
                        go_wp2
                        go_roundw
                        case rel => exact ⟨j + 1, _, by omega, by go_num, rfl, HU.out, hu0, HU2.out (by omega) (by omega), by rw [HT.out]; simp, below_drewN BXV.out _⟩
                        case measure => simp [intOf]; omega
                      | false =>
                        go_wp2_with fail
                        go_quiet (fail)
                        go_wp2
                        go_roundw
                        case rel => exact ⟨j + 1, _, by omega, by go_num, rfl, HU.out, hu0, HU2.out (by omega) (by omega), by rw [HT.out]; simp, below_drewN BXV.out _⟩
                        case measure => simp [intOf]; omega
                  · have hqi : ((q : Int) == (rr : Int)) = false := beq_eq_false_iff_ne.2 (fun h => hqr (Int.ofNat.inj h))
                    rw [decide_eq_false hqr] at HT
                    clear hqr
                    cases dn with
                    | true =>
                      go_wp2_with fail
                      go_quiet (fail)
                      go_wp2
                      go_roundw
                      case rel => exact ⟨j + 1, _, by omega, by go_num, rfl, HU.out, hu0, HU2.out (by omega) (by omega), by rw [HT.out]; simp, below_drewN BXV.out _⟩
                      case measure => simp [intOf]; omega
                    | false =>
                      cases bo with
                      | true =>
                        go_wp2_with fail
                        go_quiet (fail)
                        go_wp2
                        go_ret
                        exact ⟨ret_bool (by rw [HV.out, HT.out]; simp), below_drewN BX.out _⟩
                      | false =>
                        by_cases z1 : 0 < m'
                        · have z1' : (0 : Int) < (m' : Int) := by omega
                          have dz1 : decide ((0 : Int) < (m' : Int)) = true := decide_eq_true z1'
                          rw [decide_eq_true z1] at HT
                          go_wp2_with fail
                          go_quiet (fail)
                          go_wp2
                          go_ret
                          exact ⟨ret_bool (by rw [HV.out, HT.out]; simp), below_drewN BX.out _⟩
                        · have z1' : ¬ (0 : Int) < (m' : Int) := by omega
                          have dz1 : decide ((0 : Int) < (m' : Int)) = false := decide_eq_false z1'
                          rw [decide_eq_false z1] at HT
                          go_wp2_with fail
                          go_quiet (fail)
                          go_wp2
                          go_roundw
                          case rel => exact ⟨j + 1, _, by omega, by go_num, rfl, HU.out, hu0, HU2.out (by omega) (by omega), by rw [HT.out]; simp, below_drewN BXV.out _⟩
                          case measure => simp [intOf]; omega
        · rw [wsB_done (by have := H1.out; omega)] at ht
          obtain rfl : j = n1 := by omega
          rw [HTW.out] at hs
          have HFIN : Hid (gsB (ps, ws) = decide (s ≤ 2000000000)) := Hid.mk (by rw [HV.out, ht, ← HTOT.out, hs, HRP.out]; simp)
          have BZ := Hid.mk (BY.out.trans (hbv.mono BY.out.size))
          clear hs ht hbv hs1
          go_wp2
          go_ret
          exact ⟨ret_bool HFIN.out.symm, BZ.out⟩

end Go.Proofs.Ytnfdncofobkjhaa
