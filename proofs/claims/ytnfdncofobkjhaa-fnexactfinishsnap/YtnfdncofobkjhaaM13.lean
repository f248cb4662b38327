/- Several texts of one proof, in build order: NapG, SvO. -/
import Derived.Test.YtnfdncofobkjhaaM12
import Derived.BigQuiet
import Derived.Test.YtnfdncofobkjhaaM11

/- Contract of the program's GoodSnap. -/
namespace Go.Proofs.Ytnfdncofobkjhaa
open Go.RowKit

theorem mayBeProcs_any (n : Int) (w : World) :
    Calls Try.prog 58 #[.int .i64 n] w fun e w' => e = .returned (.bool (decide (2 ≤ n) && decide (n ≤ 4))) ∧ w' = w := by
  by_cases h : 2 ≤ n
  · rw [decide_eq_true h]
    go_enter Try.func58, Try.ntmps58
    go_wp2
    go_ret
    exact ⟨rfl, rfl⟩
  · rw [decide_eq_false h]
    have h' : n < 2 := by omega
    clear h
    go_enter Try.func58, Try.ntmps58
    go_wp2
    go_ret
    exact ⟨ret_bool (by simp <;> omega), rfl⟩

theorem getD_row {α : Type} {xs : List α} {k : Nat} {x d : α} (h : xs[k]? = some x) : xs.getD k d = x := by simp [List.getD, h]
theorem quo_nat (k n : Nat) : (k : Int) / (n : Int) = ((k / n : Nat) : Int) := (Int.natCast_ediv k n).symm
theorem rem_nat (k n : Nat) : (k : Int) % (n : Int) = ((k % n : Nat) : Int) := (Int.natCast_emod k n).symm

set_option maxRecDepth 100000 in
set_option maxHeartbeats 8000000 in
theorem implGoodSnap (a0 : Option Addr) (n0 c0 : Nat) (a1 : Option Addr) (n1 c1 : Nat) (ps : List TProc) (ws : List TWire) (w : World) (h0 : ps.length = n0) (h1 : ws.length = n1) (hb0 : n0 ≤ 1048576) (hb1 : n1 ≤ 1048576) (ha0 : AtSl RProc w a0 ps) (ha1 : AtSl RWire w a1 ws) :
    Calls Try.prog 35 #[.agg #[.slice a0 n0 c0, .slice a1 n1 c1]] w fun e w' => e = .returned (.bool (gsB (ps, ws))) ∧ Below w.heap.size w w' := by
  have HV : Hid (gsB (ps, ws) = (decide (2 ≤ n0) && decide (n0 ≤ 4) && decide (n1 = n0 * n0) && ps.all prB && wsB n0 ps 0 ws && decide (amtS (ps, ws) + recS (ps, ws) ≤ 2000000000))) := Hid.mk (by unfold gsB; simp only [h0, h1])
  have H0 := Hid.mk h0
  have H1 := Hid.mk h1
  obtain ⟨W, hW⟩ : ∃ W, W = w.alloc (.cells #[.slice a0 n0 c0, .slice a1 n1 c1] 32) := ⟨_, rfl⟩
  have B0 : Below w.heap.size w W := by rw [hW]; exact (Below.refl _ _).alloc (Nat.le_refl _) _
  have p0 : W.cell? ⟨w.heap.size, 0, none⟩ = some (.slice a0 n0 c0) := by rw [hW]; simp
  have p1 : W.cell? ⟨w.heap.size, 1, none⟩ = some (.slice a1 n1 c1) := by rw [hW]; simp
  have zW : w.heap.size < W.heap.size := by rw [hW]; simp
  have HA0 := Hid.mk (AtSl.below ha0 B0)
  have HA1 := Hid.mk (AtSl.below ha1 B0)
  have KM := Hid.mk (mayBeProcs_any (n0 : Int) W)
  clear ha0 ha1 h0 h1
  by_cases hm : 2 ≤ n0 ∧ n0 ≤ 4
  rotate_left
  · have hmf : (decide (2 ≤ (n0 : Int)) && decide ((n0 : Int) ≤ 4)) = false := by simp only [Bool.and_eq_false_iff, decide_eq_false_iff_not]; omega
    have hmg : (decide (2 ≤ n0) && decide (n0 ≤ 4)) = false := by simp only [Bool.and_eq_false_iff, decide_eq_false_iff_not]; omega
    rw [hmf] at KM
    rw [hmg] at HV
    clear hmf hmg hm
    go_enter Try.func35, Try.ntmps35
    go_wp2_with fail
    rw [← hW]
    clear hW
    refine KM.out.mono ?_
    rintro e w0 ⟨rfl, hw0⟩
    obtain rfl := hw0.symm
    go_wp2
    go_ret
    exact ⟨ret_bool (by rw [HV.out]; simp), B0⟩
  have hmf : (decide (2 ≤ (n0 : Int)) && decide ((n0 : Int) ≤ 4)) = true := by simp only [Bool.and_eq_true, decide_eq_true_eq]; omega
  have hmg : (decide (2 ≤ n0) && decide (n0 ≤ 4)) = true := by simp only [Bool.and_eq_true, decide_eq_true_eq]; omega
  rw [hmf] at KM
  rw [hmg] at HV
  obtain ⟨m0, m1⟩ := hm
  clear hmf hmg
  obtain ⟨Q, hQ⟩ : ∃ Q : Nat, n0 * n0 = Q := ⟨_, rfl⟩
  have hQ16 : Q ≤ 16 := by rw [← hQ]; exact Nat.mul_le_mul m1 m1
  have hmul : (n0 : Int) * (n0 : Int) = (Q : Int) := by rw [← hQ]; push_cast; rfl
  rw [hQ] at HV
  have HQQ := Hid.mk hQ
  clear hQ
  by_cases hq : n1 = Q
  rotate_left
  · have hqi : ((n1 : Int) != (Q : Int)) = true := by simp; omega
    rw [decide_eq_false hq] at HV
    clear hq
    go_enter Try.func35, Try.ntmps35
    go_wp2_with fail
    rw [← hW]
    clear hW
    refine KM.out.mono ?_
    rintro e w0 ⟨rfl, hw0⟩
    obtain rfl := hw0.symm
    go_wp2
    go_ret
    exact ⟨ret_bool (by rw [HV.out]; simp), B0⟩
  subst hq
  rw [decide_eq_true rfl] at HV
  have KC := Hid.mk (containsProc_any 59 (fun p => !prB p) (fun _ _ => rfl) (fun z0 z1 b w => isNoProc_any z0 z1 b w) a0 n0 c0 ps W H0.out (by omega) HA0.out)
  rw [any_not] at KC
  cases hp : ps.all prB with
  | false =>
    rw [hp] at KC HV
    go_enter Try.func35, Try.ntmps35
    go_wp2_with fail
    rw [← hW]
    clear hW
    refine KM.out.mono ?_
    rintro e w0 ⟨rfl, hw0⟩
    obtain rfl := hw0.symm
    go_wp2_with fail
    refine KC.out.mono ?_
    rintro e w2 ⟨rfl, hb⟩
    go_wp2
    go_ret
    exact ⟨ret_bool (by rw [HV.out]; simp), B0.trans (hb.mono B0.size)⟩
  | true =>
    rw [hp] at KC HV
    have HP := Hid.mk (psOk_of hp)
    clear hp
    go_enter Try.func35, Try.ntmps35
    go_wp2_with fail
    rw [← hW]
    clear hW
    refine KM.out.mono ?_
    rintro e w0 ⟨rfl, hw0⟩
    obtain rfl := hw0.symm
    go_wp2_with fail
    refine KC.out.mono ?_
    rintro e w2 ⟨rfl, hb⟩
    have p0 := cell_later hb p0
    have p1 := cell_later hb p1
    have zV : w.heap.size < w2.heap.size := Nat.lt_of_lt_of_le zW hb.size
    have HA0 := Hid.mk (AtSl.below HA0.out hb)
    have HA1 := Hid.mk (AtSl.below HA1.out hb)
    have B2 := Hid.mk (B0.trans (hb.mono B0.size))
    clear hb KC KM B0
    go_wp2_with fail
    go_loopw [31] (fun i wr => ∃ (k : Nat), k ≤ n1 ∧ i = .int .i64 k ∧ wsB n0 ps 0 ws = wsB n0 ps k (ws.drop k) ∧ Below w2.heap.size w2 wr) (fun i _ => n1 - (intOf i).toNat)
    case atStart => exact ⟨0, Nat.zero_le _, rfl, rfl, Below.refl _ _⟩
    case round =>
      obtain ⟨k, hk, rfl, ht, hbw⟩ := hrel
      obtain ⟨wY, rfl⟩ : ∃ x, x = wr := ⟨_, rfl⟩
      have p0 := cell_later hbw p0
      have p1 := cell_later hbw p1
      by_cases hlt : k < n1
      · obtain ⟨b, off, rfl, _, hc⟩ := RWire.row (AtSl.below HA1.out hbw) (by have := H1.out; omega)
        obtain ⟨⟨x0, x1, bo⟩, hx⟩ : ∃ x, ws[k]? = some x := ⟨_, List.getElem?_eq_getElem (by have := H1.out; omega)⟩
        obtain ⟨d0, l0, e0, d1, l1, e1, g0, g1, g2, t0, t1⟩ := hc k _ hx
        have hR : k % n0 < n0 := Nat.mod_lt _ (by omega)
        obtain ⟨bp, offp, rfl, _, hcp⟩ := RProc.row (AtSl.below HA0.out hbw) (by have := H0.out; omega)
        obtain ⟨⟨z0, z1, dn⟩, hxp⟩ : ∃ x, ps[k % n0]? = some x := ⟨_, List.getElem?_eq_getElem (by have := H0.out; omega)⟩
        obtain ⟨_, _, gd, _⟩ := hcp _ _ hxp
        have hdn : dnB ps (k % n0) = dn := by unfold dnB; rw [getD_row hxp]
        rw [wsB_step hx] at ht
        have hat : atB n0 ps k (x0, x1, bo) = (wiB (x0, x1, bo) && !(decide (k / n0 = k % n0) && usB (x0, x1, bo)) && !(!dn && rcB (x0, x1, bo))) := by unfold atB; rw [hdn]
        have hus : usB (x0, x1, bo) = (decide (0 < l0) || (bo || decide (0 < l1))) := by unfold usB hwB rcB; simp only [t0.1, t1.1]
        have hrc : rcB (x0, x1, bo) = (bo || decide (0 < l1)) := by unfold rcB; simp only [t1.1]
        rw [hat, hus, hrc] at ht
        have hq := quo_nat k n0
        have hr := rem_nat k n0
        obtain ⟨q, hqq⟩ : ∃ q, k / n0 = q := ⟨_, rfl⟩
        obtain ⟨r, hrr⟩ : ∃ r, k % n0 = r := ⟨_, rfl⟩
        have hqk : q ≤ k := by rw [← hqq]; exact Nat.div_le_self _ _
        have hw64 : wrap64 (q : Int) = (q : Int) := by clear hq hr hqq hrr; exact IntWalk.wrap64_in _ (by omega)
        rw [hqq] at ht hq
        rw [hrr] at ht hr gd hR
        have hn0 : (n0 : Int) ≠ 0 := by omega
        have hki : (k : Int) < (n1 : Int) := by omega
        have hri : (r : Int) < (n0 : Int) := by omega
        simp only at g0 g1 g2 gd
        obtain ⟨X, hX⟩ : ∃ X, X = wY.alloc (.cells #[.slice d0 l0 e0, .slice d1 l1 e1, .bool bo] 76) := ⟨_, rfl⟩
        have bX : Below wY.heap.size wY X := by rw [hX]; exact (Below.refl _ _).alloc (Nat.le_refl _) _
        have s0 : X.cell? ⟨wY.heap.size, 0, none⟩ = some (.slice d0 l0 e0) := by rw [hX]; simp
        have s1 : X.cell? ⟨wY.heap.size, 1, none⟩ = some (.slice d1 l1 e1) := by rw [hX]; simp
        have s2 : X.cell? ⟨wY.heap.size, 2, none⟩ = some (.bool bo) := by rw [hX]; simp
        have KW := Hid.mk (fun (Z : World) (hZ : Below X.heap.size X Z) => isNoWire_any d0 l0 e0 d1 l1 e1 bo x0 x1 Z ⟨t0.1, t0.2.1, At.below (At.below t0.2.2.1 bX) hZ, t0.2.2.2⟩ ⟨t1.1, t1.2.1, At.below (At.below t1.2.2.1 bX) hZ, t1.2.2.2⟩)
        have KU := Hid.mk (fun w => isUsed_any d0 l0 e0 d1 l1 e1 bo w)
        have KR := Hid.mk (fun w => isRecording_any d0 l0 e0 d1 l1 e1 bo w)
        have p0 := cell_later bX p0
        have gd := cell_later bX gd
        have HT := Hid.mk ht
        have BX := Hid.mk (hbw.trans (bX.mono hbw.size))
        obtain ⟨us, hus2⟩ : ∃ u, (decide (0 < l0) || (bo || decide (0 < l1))) = u := ⟨_, rfl⟩
        obtain ⟨rc, hrc2⟩ : ∃ u, (bo || decide (0 < l1)) = u := ⟨_, rfl⟩
        rw [hus2] at KU HT
        rw [hrc2] at KR HT
        obtain ⟨wi, hwi⟩ : ∃ u, wiB (x0, x1, bo) = u := ⟨_, rfl⟩
        rw [hwi] at KW HT
        clear hc hcp hx hxp ht hat hus hrc hus2 hrc2 hwi hdn hqq hrr bX t0 t1 hbw
        go_wp2_with fail
        go_quiet (fail)
        go_wp2_with fail
        rw [← hX]
        clear hX
        obtain ⟨Z, hZ⟩ : ∃ x, x = X.drewN nq := ⟨_, rfl⟩
        have bZ : Below X.heap.size X Z := by rw [hZ]; exact below_drewN (Below.refl _ _) _
        rw [← hZ]
        clear hZ
        have BX := Hid.mk (BX.out.trans (bZ.mono BX.out.size))
        have p0 := cell_later bZ p0
        have gd := cell_later bZ gd
        have s0 := cell_later bZ s0
        have s1 := cell_later bZ s1
        have s2 := cell_later bZ s2
        refine (KW.out Z bZ).mono ?_
        rintro e w4 ⟨rfl, hb4⟩
        have B4 := Hid.mk (BX.out.trans (hb4.mono BX.out.size))
        have p0 := cell_later hb4 p0
        have gd := cell_later hb4 gd
        have s0 := cell_later hb4 s0
        have s1 := cell_later hb4 s1
        have s2 := cell_later hb4 s2
        clear hb4 bZ KW BX
        cases wi with
        | false =>
          go_wp2
          go_ret
          exact ⟨ret_bool (by rw [HV.out, HT.out]; simp), B2.out.trans (B4.out.mono B2.out.size)⟩
        | true =>
          by_cases hqr : q = r
          · have hqi : ((q : Int) == (r : Int)) = true := by rw [hqr]; exact beq_self_eq_true _
            rw [decide_eq_true hqr] at HT
            clear hqr
            go_wp2_with fail
            refine (KU.out _).mono ?_
            rintro e w5 ⟨rfl, hb5⟩
            have B5 := Hid.mk (B4.out.trans (hb5.mono B4.out.size))
            have p0 := cell_later hb5 p0
            have gd := cell_later hb5 gd
            have s0 := cell_later hb5 s0
            have s1 := cell_later hb5 s1
            have s2 := cell_later hb5 s2
            clear hb5 KU
            cases us with
            | true =>
              go_wp2
              go_ret
              exact ⟨ret_bool (by rw [HV.out, HT.out]; simp), B2.out.trans (B5.out.mono B2.out.size)⟩
            | false =>
              cases dn with
              | true =>
                go_wp2
                go_roundw
                case rel => exact ⟨k + 1, by omega, by go_num, (by rw [HT.out]; simp), B5.out⟩
                case measure => simp [intOf]; omega
              | false =>
                go_wp2_with fail
                refine (KR.out _).mono ?_
                rintro e w6 ⟨rfl, hb6⟩
                have B6 := Hid.mk (B5.out.trans (hb6.mono B5.out.size))
                clear hb6 KR
                cases rc with
                | true =>
                  go_wp2
                  go_ret
                  exact ⟨ret_bool (by rw [HV.out, HT.out]; simp), B2.out.trans (B6.out.mono B2.out.size)⟩
                | false =>
                  go_wp2
                  go_roundw
                  case rel => exact ⟨k + 1, by omega, by go_num, (by rw [HT.out]; simp), B6.out⟩
                  case measure => simp [intOf]; omega
          · have hqi : ((q : Int) == (r : Int)) = false := beq_eq_false_iff_ne.2 (fun h => hqr (Int.ofNat.inj h))
            rw [decide_eq_false hqr] at HT
            clear hqr
            cases dn with
            | true =>
              go_wp2
              go_roundw
              case rel => exact ⟨k + 1, by omega, by go_num, (by rw [HT.out]; simp), B4.out⟩
              case measure => simp [intOf]; omega
            | false =>
              go_wp2_with fail
              refine (KR.out _).mono ?_
              rintro e w6 ⟨rfl, hb6⟩
              have B6 := Hid.mk (B4.out.trans (hb6.mono B4.out.size))
              clear hb6 KR
              cases rc with
              | true =>
                go_wp2
                go_ret
                exact ⟨ret_bool (by rw [HV.out, HT.out]; simp), B2.out.trans (B6.out.mono B2.out.size)⟩
              | false =>
                go_wp2
                go_roundw
                case rel => exact ⟨k + 1, by omega, by go_num, (by rw [HT.out]; simp), B6.out⟩
                case measure => simp [intOf]; omega
      · rw [wsB_done (by have := H1.out; omega)] at ht
        obtain rfl : k = n1 := by omega
        have HW := Hid.mk (wsOk_of ht)
        have HV2 : Hid (gsB (ps, ws) = decide (amtS (ps, ws) + recS (ps, ws) ≤ 2000000000)) := Hid.mk (by rw [HV.out, ht]; simp)
        have HA0 := Hid.mk (AtSl.below HA0.out hbw)
        have HA1 := Hid.mk (AtSl.below HA1.out hbw)
        have B3 := Hid.mk (B2.out.trans (hbw.mono B2.out.size))
        have KA := Hid.mk (fun w hw => amountsIn_any a0 n0 c0 a1 k c1 ps ws w H0.out H1.out m1 hQ16 HP.out HW.out (AtSl.below HA0.out hw) (AtSl.below HA1.out hw))
        have KR := Hid.mk (fun w hw => recordedIn_any a0 n0 c0 a1 k c1 ps ws w H0.out H1.out m1 hQ16 HP.out HW.out (AtSl.below HA0.out hw) (AtSl.below HA1.out hw))
        have hA : amtS (ps, ws) = pAmt ps + wAmt ws := rfl
        have hR : recS (ps, ws) = pSav ps + wRec ws := rfl
        have b1 := amt_le HP.out HW.out H0.out H1.out m1 hQ16
        rw [← hA] at KA b1
        rw [← hR] at KR b1
        obtain ⟨A, hA2⟩ : ∃ A, amtS (ps, ws) = A := ⟨_, rfl⟩
        obtain ⟨R, hR2⟩ : ∃ R, recS (ps, ws) = R := ⟨_, rfl⟩
        rw [hA2] at KA b1 HV2
        rw [hR2] at KR b1 HV2
        obtain ⟨b1, b2, b3, b4⟩ := b1
        have hAR : IntKind.i64.wrap (A + R) = A + R := IntWalk.i64_in _ (by omega)
        clear hA hR hA2 hR2 ht hbw
        go_wp2_with fail
        go_region_held3 (fun w' => w'.cell? ⟨w.heap.size, 0, none⟩ = some (.slice a0 n0 c0) ∧ w'.cell? ⟨w.heap.size, 1, none⟩ = some (.slice a1 k c1)) (refine ⟨?_, ?_⟩ <;> assumption)
          (first
            | (go_at_call 63; refine (KA.out _ (Below.refl _ _).drew).mono ?_; rintro e w5 ⟨rfl, hb5⟩; have p0 := cell_later hb5 p0; have p1 := cell_later hb5 p1; have bb5 := (Below.refl _ _).drew.trans hb5)
            | (go_at_call 64; refine (KR.out _ bb5).mono ?_; rintro e w6 ⟨rfl, hb6⟩; have p0 := cell_later hb6 p0; have p1 := cell_later hb6 p1; have bb6 := bb5.trans (hb6.mono bb5.size))
            | fail)
        go_wp2
        go_ret
        exact ⟨ret_bool HV2.out.symm, B3.out.trans (bb6.mono B3.out.size)⟩

end Go.Proofs.Ytnfdncofobkjhaa

/- Contract of the program's StepSnap. -/
namespace Go.Proofs.Ytnfdncofobkjhaa
open Go.RowKit

theorem Off.belowOf {F : Nat → Prop} {a b : World} {B : Nat} (h : Off F a b) (hF : ∀ b, F b → B ≤ b) (hB : B ≤ a.heap.size) : Below B a b := ⟨h.os, h.tape, h.output, h.size, fun k hk => h.block k (by omega) (fun e => by have := hF k e; omega)⟩
theorem wire_small {ws : List TWire} (h : WsOk ws) : ∀ (i : Nat) (x : TWire), ws[i]? = some x → x.1.length ≤ 1048576 ∧ x.2.1.length ≤ 1048576 := fun _ x hx => by
  have := h x (List.mem_of_getElem? hx)
  omega
set_option maxRecDepth 100000 in
set_option maxHeartbeats 8000000 in
theorem implStepSnap (a0 : Option Addr) (n0 c0 : Nat) (a1 : Option Addr) (n1 c1 : Nat) (kd f t v : Int) (ps : List TProc) (ws : List TWire) (w : World) (h0 : ps.length = n0) (h1 : ws.length = n1) (hb0 : n0 ≤ 1048576) (hb1 : n1 ≤ 1048576) (hsm : ∀ (i : Nat) (x : TWire), ws[i]? = some x → costWire x ≤ 1048576) (ha0 : AtSl RProc w a0 ps) (ha1 : AtSl RWire w a1 ws) :
    Calls Try.prog 10 #[.agg #[.slice a0 n0 c0, .slice a1 n1 c1], .agg #[.int .i64 kd, .int .i64 f, .int .i64 t, .int .i64 v]] w fun e w' => SnapRet e w' w.heap.size (spB (ps, ws) kd f t v) (spX (ps, ws) kd f t v) ∧ Below w.heap.size w w' := by
  obtain ⟨W1, hW1⟩ : ∃ W, W = w.alloc (.cells #[.slice a0 n0 c0, .slice a1 n1 c1] 32) := ⟨_, rfl⟩
  obtain ⟨W2, hW2⟩ : ∃ W, W = W1.alloc (.cells #[.int .i64 kd, .int .i64 f, .int .i64 t, .int .i64 v] 36) := ⟨_, rfl⟩
  obtain ⟨W, hW⟩ : ∃ W, W = W2.alloc (.cells #[.slice none 0 0, .slice none 0 0] 32) := ⟨_, rfl⟩
  have z1 : W1.heap.size = w.heap.size + 1 := by rw [hW1]; simp
  have z2 : W2.heap.size = w.heap.size + 2 := by rw [hW2]; simp [z1]
  have zW : W.heap.size = w.heap.size + 3 := by rw [hW]; simp [z2]
  have B01 : Below w.heap.size w W1 := by rw [hW1]; exact (Below.refl _ _).alloc (Nat.le_refl _) _
  have B12 : Below W1.heap.size W1 W2 := by rw [hW2]; exact (Below.refl _ _).alloc (Nat.le_refl _) _
  have B23 : Below W2.heap.size W2 W := by rw [hW]; exact (Below.refl _ _).alloc (Nat.le_refl _) _
  have bb : W.heap[w.heap.size]? = some (.cells #[.slice a0 n0 c0, .slice a1 n1 c1] 32 (0, 0)) := blk_below (blk_below (by rw [hW1]; exact heap_alloc_new w _) B12) B23
  have bx : W.heap[w.heap.size + 1]? = some (.cells #[.int .i64 kd, .int .i64 f, .int .i64 t, .int .i64 v] 36 (0, 0)) := blk_below (by rw [hW2, ← z1]; exact heap_alloc_new W1 _) B23
  have br : W.heap[w.heap.size + 2]? = some (.cells #[.slice none 0 0, .slice none 0 0] 32 (0, 0)) := by rw [hW, ← z2]; exact heap_alloc_new W2 _
  have B0 : Below w.heap.size w W := B01.trans ((B12.mono (by omega)).trans (B23.mono (by omega)))
  have hWW : W = ((w.alloc (.cells #[.slice a0 n0 c0, .slice a1 n1 c1] 32)).alloc (.cells #[.int .i64 kd, .int .i64 f, .int .i64 t, .int .i64 v] 36)).alloc (.cells #[.slice none 0 0, .slice none 0 0] 32) := by rw [hW, hW2, hW1]
  clear B01 B12 B23 hW hW1 hW2 z1 z2 W1 W2
  obtain ⟨PB, hPB⟩ : ∃ b, gsB (ps, ws) = b := ⟨_, rfl⟩
  obtain ⟨XB, hXB⟩ : ∃ b, spB (ps, ws) kd f t v = b := ⟨_, rfl⟩
  obtain ⟨XX, hXX⟩ : ∃ b, spX (ps, ws) kd f t v = b := ⟨_, rfl⟩
  have KG := Hid.mk (implGoodSnap a0 n0 c0 a1 n1 c1 ps ws W h0 h1 hb0 hb1 (AtSl.below ha0 B0) (AtSl.below ha1 B0))
  rw [hPB] at KG
  rw [hXB, hXX]
  have HPB := Hid.mk hPB
  have HXB := Hid.mk hXB
  have HXX := Hid.mk hXX
  have H0 := Hid.mk h0
  have H1 := Hid.mk h1
  have HSM := Hid.mk hsm
  have HA0 := Hid.mk (AtSl.below ha0 B0)
  have HA1 := Hid.mk (AtSl.below ha1 B0)
  clear ha0 ha1 h0 h1 hsm hPB hXB hXX
  have q0 := blk_cell bb 0 (v := .slice a0 n0 c0) rfl
  have q1 := blk_cell bb 1 (v := .slice a1 n1 c1) rfl
  go_enter Try.func10, Try.ntmps10
  go_upto_region 1 with fail
  rw [← hWW]
  clear hWW
  go_wp2_with fail
  refine KG.out.mono ?_
  rintro e w1 ⟨rfl, hb1'⟩
  have bb := blk_below bb hb1'
  have bx := blk_below bx hb1'
  have br := blk_below br hb1'
  have z1 := hb1'.size
  have B1 := B0.trans (hb1'.mono B0.size)
  have HA0 := Hid.mk (AtSl.below HA0.out hb1')
  have HA1 := Hid.mk (AtSl.below HA1.out hb1')
  clear hb1' KG q0 q1
  cases PB with
  | false =>
    have hB0 : spB (ps, ws) kd f t v = false := by unfold spB; rw [HPB.out]; rfl
    obtain rfl : false = XB := by rw [← HXB.out, hB0]
    obtain rfl : (([], []) : TSnap) = XX := by rw [← HXX.out]; unfold spX; rw [hB0]; rfl
    clear hB0
    have y0 := blk_cell br 0 (v := .slice none 0 0) rfl
    have y1 := blk_cell br 1 (v := .slice none 0 0) rfl
    have fz0 := blk_frozen br 0
    have fz1 := blk_frozen br 1
    go_wp2
    refine bodyPost_ret (v := .tuple #[.agg #[.slice none 0 0, .slice none 0 0], .bool false]) (by simp [results, Try.results10, go_sem, y0, y1]) rfl ⟨⟨none, 0, 0, none, 0, 0, rfl, RSnap.nil _ _⟩, ?_⟩
    exact (B1.setCell (by show w.heap.size ≤ w.heap.size + 2; omega) _).setCell (by show w.heap.size ≤ w.heap.size + 2; omega) _
  | true =>
    obtain ⟨g2, g4, gn, g16, gp, gw, _⟩ := gs_parts H0.out H1.out HPB.out
    have KC := Hid.mk (copySnap_any a0 n0 c0 a1 n1 c1 ps ws w1 H0.out H1.out (by omega) g4 (by rw [gn]; exact Nat.mul_pos (by omega) (by omega)) g16 (wire_small gw) HA0.out HA1.out)
    have HGN := Hid.mk gn
    have HGP := Hid.mk gp
    have HGW := Hid.mk gw
    clear gn gp gw
    have q0 := blk_cell bb 0 (v := .slice a0 n0 c0) rfl
    have q1 := blk_cell bb 1 (v := .slice a1 n1 c1) rfl
    go_wp2_with fail
    refine KC.out.mono ?_
    rintro e w2 ⟨g0, d0, g1, d1, cs0, cs1, G, rfl, hsv, hb2⟩
    have bb := blk_below bb hb2
    have bx := blk_below bx hb2
    have br := blk_below br hb2
    have z2 := hb2.size
    have B2 := B1.trans (hb2.mono B1.size)
    have HA0 := Hid.mk (AtSl.below HA0.out hb2)
    have HA1 := Hid.mk (AtSl.below HA1.out hb2)
    obtain ⟨P, hP⟩ : ∃ P, w2.heap.size = P := ⟨_, rfl⟩
    obtain ⟨Xa, hX⟩ : ∃ u, u = w2.alloc (.cells #[.slice (some ⟨g0, 0, none⟩) n0 d0, .slice (some ⟨g1, 0, none⟩) n1 d1] 32) := ⟨_, rfl⟩
    have bX : Below w2.heap.size w2 Xa := by rw [hX]; exact (Below.refl _ _).alloc (Nat.le_refl _) _
    have bp : Xa.heap[P]? = some (.cells #[.slice (some ⟨g0, 0, none⟩) n0 d0, .slice (some ⟨g1, 0, none⟩) n1 d1] 32 (0, 0)) := by rw [hX, ← hP]; exact heap_alloc_new w2 _
    have zXa : P < Xa.heap.size := by rw [hX, ← hP]; simp
    have bb := blk_below bb bX
    have bx := blk_below bx bX
    have br := blk_below br bX
    have zX := bX.size
    have BX := B2.trans (bX.mono B2.size)
    have KT := Hid.mk (takeSnapStep_any (fun b => w1.heap.size ≤ b ∧ b ≠ P) g0 n0 d0 g1 n1 d1 kd f t v ps ws cs0 cs1 G Xa g4 HGN.out HGP.out HGW.out (hsv.shun (Nat.le_of_eq hP) bX zXa))
    have HPN : Hid (w1.heap.size ≤ P) := Hid.mk (by omega)
    have hst : stT (ps, ws) kd f t v = stS n0 kd f t v ps ws := by unfold stT; simp only [H0.out]
    have hsl := stT_len (ps, ws) kd f t v
    rw [hst] at hsl
    obtain ⟨⟨OK, PS, WS⟩, hS⟩ : ∃ y, stS n0 kd f t v ps ws = y := ⟨_, rfl⟩
    rw [hS] at KT hsl hst
    have HST := Hid.mk hst
    have HSL := Hid.mk hsl
    clear hsv hb2 KC q0 q1 hS hst hsl
    go_upto_region 4 with fail
    rw [← hX]
    clear hX
    (try rw [hP])
    clear hP bX
    have p0 := blk_cell bp 0 (v := .slice (some ⟨g0, 0, none⟩) n0 d0) rfl
    have p1 := blk_cell bp 1 (v := .slice (some ⟨g1, 0, none⟩) n1 d1) rfl
    have x0 := blk_cell bx 0 (v := .int .i64 kd) rfl
    have x1 := blk_cell bx 1 (v := .int .i64 f) rfl
    have x2 := blk_cell bx 2 (v := .int .i64 t) rfl
    have x3 := blk_cell bx 3 (v := .int .i64 v) rfl
    go_wp2_with fail
    refine KT.out.mono ?_
    rintro e w3 ⟨rfl, hb3, hsv3⟩
    have br := (hb3.block (w.heap.size + 2) (by omega) (fun h => by have := h.1; omega)).trans br
    have bp := (hb3.block P (by omega) (fun h => h.2 rfl)).trans bp
    have z3 := hb3.size
    have B3 : Below w.heap.size w w3 := BX.trans (Off.belowOf hb3 (fun b h => by have := h.1; omega) (by omega))
    have HSV3 := Hid.mk hsv3
    clear KT hsv3 hb3 p0 p1 x0 x1 x2 x3 bx bb
    cases OK with
    | false =>
      clear bp
      have hB0 : spB (ps, ws) kd f t v = false := by unfold spB; rw [HST.out, HPB.out]; rfl
      obtain rfl : false = XB := by rw [← HXB.out, hB0]
      obtain rfl : (([], []) : TSnap) = XX := by rw [← HXX.out]; unfold spX; rw [hB0]; rfl
      clear hB0
      have y0 := blk_cell br 0 (v := .slice none 0 0) rfl
      have y1 := blk_cell br 1 (v := .slice none 0 0) rfl
      have fz0 := blk_frozen br 0
      have fz1 := blk_frozen br 1
      go_wp2
      refine bodyPost_ret (v := .tuple #[.agg #[.slice none 0 0, .slice none 0 0], .bool false]) (by simp [results, Try.results10, go_sem, y0, y1]) rfl ⟨⟨none, 0, 0, none, 0, 0, rfl, RSnap.nil _ _⟩, ?_⟩
      exact (B3.setCell (by show w.heap.size ≤ w.heap.size + 2; omega) _).setCell (by show w.heap.size ≤ w.heap.size + 2; omega) _
    | true =>
      obtain ⟨cs0, cs1, G, hsv⟩ : ∃ cells0 cells1 G, SV w3 (fun b => w1.heap.size ≤ b ∧ b ≠ P) g0 n0 d0 g1 n1 d1 PS WS cells0 cells1 G := by first | exact HSV3.out rfl | exact HSV3.out trivial
      have hl0 : PS.length = n0 := hsv.pr.len
      have hl1 : WS.length = n1 := hsv.wi.len
      have KG2 := Hid.mk (implGoodSnap (some ⟨g0, 0, none⟩) n0 d0 (some ⟨g1, 0, none⟩) n1 d1 PS WS w3 hl0 hl1 hb0 hb1 hsv.pr.atSl hsv.wi.atSl)
      obtain ⟨PB2, hPB2⟩ : ∃ b, gsB (PS, WS) = b := ⟨_, rfl⟩
      rw [hPB2] at KG2
      have hsp : spB (ps, ws) kd f t v = PB2 := by unfold spB; rw [HST.out, HPB.out]; simp only [Bool.true_and]; exact hPB2
      have HSP := Hid.mk hsp
      have HSV := Hid.mk hsv
      clear hsv HSV3 hPB2 hsp hl0 hl1
      have p0 := blk_cell bp 0 (v := .slice (some ⟨g0, 0, none⟩) n0 d0) rfl
      have p1 := blk_cell bp 1 (v := .slice (some ⟨g1, 0, none⟩) n1 d1) rfl
      go_wp2_with fail
      refine KG2.out.mono ?_
      rintro e w4 ⟨rfl, hb4⟩
      have br := blk_below br hb4
      have bp := blk_below bp hb4
      have z4 := hb4.size
      have B4 := B3.trans (hb4.mono B3.size)
      have HSV4 := Hid.mk (HSV.out.below hb4)
      clear KG2 hb4 HSV p0 p1
      cases PB2 with
      | false =>
        clear bp
        have hB0 : spB (ps, ws) kd f t v = false := by exact HSP.out
        obtain rfl : false = XB := by rw [← HXB.out, hB0]
        obtain rfl : (([], []) : TSnap) = XX := by rw [← HXX.out]; unfold spX; rw [hB0]; rfl
        clear hB0
        have y0 := blk_cell br 0 (v := .slice none 0 0) rfl
        have y1 := blk_cell br 1 (v := .slice none 0 0) rfl
        have fz0 := blk_frozen br 0
        have fz1 := blk_frozen br 1
        go_wp2
        refine bodyPost_ret (v := .tuple #[.agg #[.slice none 0 0, .slice none 0 0], .bool false]) (by simp [results, Try.results10, go_sem, y0, y1]) rfl ⟨⟨none, 0, 0, none, 0, 0, rfl, RSnap.nil _ _⟩, ?_⟩
        exact (B4.setCell (by show w.heap.size ≤ w.heap.size + 2; omega) _).setCell (by show w.heap.size ≤ w.heap.size + 2; omega) _
      | true =>
        obtain rfl : true = XB := by rw [← HXB.out, HSP.out]
        obtain rfl : ((PS, WS) : TSnap) = XX := by rw [← HXX.out]; unfold spX; rw [HSP.out, HST.out]; rfl
        have p0 := blk_cell bp 0 (v := .slice (some ⟨g0, 0, none⟩) n0 d0) rfl
        have p1 := blk_cell bp 1 (v := .slice (some ⟨g1, 0, none⟩) n1 d1) rfl
        have y0 := blk_cell br 0 (v := .slice none 0 0) rfl
        have y1 := blk_cell br 1 (v := .slice none 0 0) rfl
        have fz0 := blk_frozen br 0
        have fz1 := blk_frozen br 1
        obtain ⟨Y, hY⟩ : ∃ u, u = (w4.setCell ⟨w.heap.size + 2, 0, none⟩ (.slice (some ⟨g0, 0, none⟩) n0 d0)).setCell ⟨w.heap.size + 2, 1, none⟩ (.slice (some ⟨g1, 0, none⟩) n1 d1) := ⟨_, rfl⟩
        have S : Off (fun b => b = w.heap.size + 2) w4 Y := by rw [hY]; exact (Off.set (F := fun b => b = w.heap.size + 2) (a := ⟨w.heap.size + 2, 0, none⟩) rfl _).trans (Off.set (F := fun b => b = w.heap.size + 2) (a := ⟨w.heap.size + 2, 1, none⟩) rfl _)
        have RR : Hid (SnapRet (.returned (.tuple #[.agg #[.slice (some ⟨g0, 0, none⟩) n0 d0, .slice (some ⟨g1, 0, none⟩) n1 d1], .bool true])) Y w.heap.size true (PS, WS) ∧ Below w.heap.size w Y) := Hid.mk (by
          have zS := S.size
          refine ⟨?_, B4.trans (S.belowOf (fun b h => by have h2 : b = w.heap.size + 2 := h; omega) (by omega))⟩
          exact ⟨some ⟨g0, 0, none⟩, n0, d0, some ⟨g1, 0, none⟩, n1, d1, rfl, RSnap.mono (RSnap.ownOff (SV.own HSV4.out) S (fun b h e => by have h2 : b = w.heap.size + 2 := e; have := h.1.1; omega)) (fun b h => ⟨by have := h.1.1; omega, by have := h.2; omega⟩)⟩)
        have HY := Hid.mk hY
        clear S hY
        go_wp2
        refine bodyPost_ret (v := .tuple #[.agg #[.slice (some ⟨g0, 0, none⟩) n0 d0, .slice (some ⟨g1, 0, none⟩) n1 d1], .bool true]) (by simp [results, Try.results10, go_sem, y0, y1]) rfl ?_
        have h := RR.out
        rw [HY.out] at h
        exact h

end Go.Proofs.Ytnfdncofobkjhaa
