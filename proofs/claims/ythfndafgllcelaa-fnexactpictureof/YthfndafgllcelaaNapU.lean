/- Contracts of the model's TotalIn and PictureOf. -/
import Derived.Test.YthfndafgllcelaaNapS
import Derived.Test.YthfndafgllcelaaNapR
namespace Go.Proofs.Ythfndafgllcelaa
open Go.RowKit

set_option maxRecDepth 100000 in
set_option maxHeartbeats 4000000 in
theorem specTotalIn (a0 : Option Addr) (n0 c0 : Nat) (a1 : Option Addr) (n1 c1 : Nat) (ps : List TProc) (ws : List TWire) (w : World) (h0 : ps.length = n0) (h1 : ws.length = n1) (hb0 : n0 ≤ 1048576) (hb1 : n1 ≤ 1048576) (hsm : ∀ (i : Nat) (x : TWire), ws[i]? = some x → costWire x ≤ 1048576) (ha0 : AtSl RProc w a0 ps) (ha1 : AtSl RWire w a1 ws) :
    Calls Try.prog 33 #[.agg #[.slice a0 n0 c0, .slice a1 n1 c1]] w fun e w' => e = .returned (.tuple #[.int .i64 (if gsB (ps, ws) then amtS (ps, ws) else 0), .bool (gsB (ps, ws))]) ∧ Below w.heap.size w w' := by
  have HS : Hid (∀ k, PsOk ps → 0 ≤ sumTo (fun p : TProc => p.1) ps k ∧ sumTo (fun p : TProc => p.1) ps k ≤ 2000000000 * k) := Hid.mk (fun k hp => sumTo_le _ (by omega) (fun p h => by have := hp p h; omega) k)
  have HT : Hid (∀ k, WsOk ws → 0 ≤ sumTo (fun v : TWire => v.1.sum) ws k ∧ sumTo (fun v : TWire => v.1.sum) ws k ≤ 200000000 * k) := Hid.mk (fun k hw => sumTo_le _ (by omega) (fun v h => by have := hw v h; omega) k)
  have HP : Hid (sumTo (fun p : TProc => p.1) ps n0 = pAmt ps) := Hid.mk (sumTo_all _ _ h0)
  have HQ : Hid (sumTo (fun v : TWire => v.1.sum) ws n1 = wAmt ws) := Hid.mk (sumTo_all _ _ h1)
  have H0 := Hid.mk h0
  have H1 := Hid.mk h1
  obtain ⟨W, hW⟩ : ∃ W, W = w.alloc (.cells #[.slice a0 n0 c0, .slice a1 n1 c1] 26) := ⟨_, rfl⟩
  have B0 : Below w.heap.size w W := by rw [hW]; exact (Below.refl _ _).alloc (Nat.le_refl _) _
  have p0 : W.cell? ⟨w.heap.size, 0, none⟩ = some (.slice a0 n0 c0) := by rw [hW]; simp
  have p1 : W.cell? ⟨w.heap.size, 1, none⟩ = some (.slice a1 n1 c1) := by rw [hW]; simp
  have HA0 := Hid.mk (AtSl.below ha0 B0)
  have HA1 := Hid.mk (AtSl.below ha1 B0)
  have KG := Hid.mk (specGoodSnap a0 n0 c0 a1 n1 c1 ps ws W h0 h1 hb0 hb1 hsm HA0.out HA1.out)
  have HGP := Hid.mk (fun h => gs_parts h0 h1 h)
  clear ha0 ha1 h0 h1 hsm
  cases hg : gsB (ps, ws) with
  | false =>
    rw [hg] at KG
    go_enter Try.func33, Try.ntmps33
    go_wp2_with fail
    rw [← hW]
    clear hW
    refine KG.out.mono ?_
    rintro e w1 ⟨rfl, hb1⟩
    have p0 := cell_later hb1 p0
    have p1 := cell_later hb1 p1
    have B1 := Hid.mk (B0.trans (hb1.mono B0.size))
    go_wp2
    refine bodyPost_ret (v := .tuple #[.int .i64 0, .bool false]) (by simp [results, Try.results33, go_sem]) rfl ⟨rfl, B1.out⟩
  | true =>
    obtain ⟨g1, g2, g3, g4, g5, g6, g7⟩ := HGP.out hg
    rw [hg] at KG
    have HPS := Hid.mk g5
    have HWS := Hid.mk g6
    have HS := Hid.mk (fun k => HS.out k g5)
    have HT := Hid.mk (fun k => HT.out k g6)
    clear HGP g3 g5 g6 g7
    go_enter Try.func33, Try.ntmps33
    go_wp2_with fail
    rw [← hW]
    clear hW
    refine KG.out.mono ?_
    rintro e w1 ⟨rfl, hb1⟩
    have p0 := cell_later hb1 p0
    have p1 := cell_later hb1 p1
    have B1 := Hid.mk (B0.trans (hb1.mono B0.size))
    have HA0 := Hid.mk (AtSl.below HA0.out hb1)
    have HA1 := Hid.mk (AtSl.below HA1.out hb1)
    clear hb1 KG
    go_wp2_with fail
    go_loopw [4, 17] (fun q i wr => ∃ (k : Nat) (r : Int), k ≤ n0 ∧ i = .int .i64 k ∧ q = .int .i64 r ∧ r = sumTo (fun p : TProc => p.1) ps k ∧ Below w1.heap.size w1 wr) (fun _ i _ => n0 - (intOf i).toNat)
    case atStart => exact ⟨0, 0, Nat.zero_le _, rfl, rfl, (sumTo_zero _ _).symm, Below.refl _ _⟩
    case round =>
      obtain ⟨k, r, hk, rfl, rfl, hr, hbw⟩ := hrel
      obtain ⟨wY, rfl⟩ : ∃ x, x = wr := ⟨_, rfl⟩
      by_cases hlt : k < n0
      · obtain ⟨b, off, rfl, _, hc⟩ := RProc.row (AtSl.below HA0.out hbw) (by have := H0.out; omega)
        obtain ⟨⟨z0, z1, bo⟩, hx⟩ : ∃ x, ps[k]? = some x := ⟨_, List.getElem?_eq_getElem (by have := H0.out; omega)⟩
        obtain ⟨y0, y1, y2, _⟩ := hc k _ hx
        have hs := sumTo_succ (fun p : TProc => p.1) hx
        have q1 := HS.out k
        have q2 := HS.out (k + 1)
        have hki : (k : Int) < (n0 : Int) := by omega
        simp only at hs y0 y1 y2
        have u0 : 0 ≤ r := by omega
        have u1 : r ≤ 9000000000 := by omega
        have u2 : 0 ≤ r + z0 := by omega
        have u3 : r + z0 ≤ 9000000000 := by omega
        have HR : Hid (r + z0 = sumTo (fun p : TProc => p.1) ps (k + 1)) := Hid.mk (by omega)
        clear hc hx hs q1 q2 hr
        go_wp2
        go_roundw
        case rel => exact ⟨k + 1, _, by omega, by go_num, rfl, HR.out, hbw.alloc hbw.size _⟩
        case measure => simp [intOf]; omega
      · obtain rfl : k = n0 := by omega
        rw [HP.out] at hr
        have hp0 := HS.out k
        rw [HP.out] at hp0
        have p1 := cell_later hbw p1
        have u0 : 0 ≤ r := by omega
        have u1 : r ≤ 8000000000 := by omega
        have HR := Hid.mk hr
        have HA1 := Hid.mk (AtSl.below HA1.out hbw)
        have BY := Hid.mk (B1.out.trans (hbw.mono B1.out.size))
        clear hr hp0 hbw
        go_wp2_with fail
        go_loopw [4, 29] (fun q i wr => ∃ (j : Nat) (s : Int), j ≤ n1 ∧ i = .int .i64 j ∧ q = .int .i64 s ∧ s = r + sumTo (fun v : TWire => v.1.sum) ws j ∧ Below wY.heap.size wY wr) (fun _ i _ => n1 - (intOf i).toNat)
        case atStart => exact ⟨0, r, Nat.zero_le _, rfl, rfl, by rw [sumTo_zero]; omega, Below.refl _ _⟩
        case round =>
          obtain ⟨j, s, hj, rfl, rfl, hs, hbv⟩ := hrel
          obtain ⟨wZ, rfl⟩ : ∃ x, x = wr := ⟨_, rfl⟩
          by_cases hjt : j < n1
          · obtain ⟨b, off, rfl, hb, hc⟩ := RWire.row (AtSl.below HA1.out hbv) (by have := H1.out; omega)
            obtain ⟨⟨x0, x1, bo⟩, hx⟩ : ∃ x, ws[j]? = some x := ⟨_, List.getElem?_eq_getElem (by have := H1.out; omega)⟩
            obtain ⟨d0, m0, e0, d1, m1, e1, y0, y1, y2, ⟨t01, t02, t03, _⟩, ⟨t11, t12, t13, _⟩⟩ := hc j _ hx
            have hok := HWS.out _ (List.mem_of_getElem? hx)
            have hst := sumTo_succ (fun v : TWire => v.1.sum) hx
            have q1 := HT.out j
            have q2 := HT.out (j + 1)
            have hki : (j : Int) < (n1 : Int) := by omega
            simp only at hst hok y0 y1 y2 t01 t03 t11 t13
            obtain ⟨X, hX⟩ : ∃ X, X = wZ.alloc (.cells #[.slice d0 m0 e0, .slice d1 m1 e1, .bool bo] 74) := ⟨_, rfl⟩
            have bX : Below wZ.heap.size wZ X := by rw [hX]; exact (Below.refl _ _).alloc (Nat.le_refl _) _
            have v0 : X.cell? ⟨wZ.heap.size, 0, none⟩ = some (.slice d0 m0 e0) := by rw [hX]; simp
            have v1 : X.cell? ⟨wZ.heap.size, 1, none⟩ = some (.slice d1 m1 e1) := by rw [hX]; simp
            have v2 : X.cell? ⟨wZ.heap.size, 2, none⟩ = some (.bool bo) := by rw [hX]; simp
            have HD := Hid.mk (At.below t03 bX)
            have HL := Hid.mk t01
            have HI : Hid (∀ i', 0 ≤ sumTo (fun x : Int => x) x0 i' ∧ sumTo (fun x : Int => x) x0 i' ≤ 1000000 * i') := Hid.mk (sumTo_le _ (by omega) hok.2.2.2.2.2.2.1)
            have hlm : m0 ≤ 200 := by omega
            have u4 : 0 ≤ s := by omega
            have u5 : s ≤ 18000000000 := by omega
            have BX := Hid.mk (hbv.trans (bX.mono hbv.size))
            have HSQ := Hid.mk hs
            have HST := Hid.mk hst
            clear hc hx hst q1 q2 hs hok bX t01 t03 t11 t13
            go_wp2_with fail
            rw [← hX]
            clear hX
            go_loopw [4, 36] (fun q i wr => ∃ (i' : Nat) (t : Int), i' ≤ m0 ∧ i = .int .i64 i' ∧ q = .int .i64 t ∧ t = s + sumTo (fun x : Int => x) x0 i' ∧ wr = X) (fun _ i _ => m0 - (intOf i).toNat)
            case atStart => exact ⟨0, s, Nat.zero_le _, rfl, rfl, by rw [sumTo_zero]; omega, rfl⟩
            case round =>
              obtain ⟨i', t, hi, rfl, rfl, hts, hwX⟩ := hrel
              obtain rfl := hwX.symm
              by_cases hit : i' < m0
              · obtain ⟨bb, offb, rfl, _, hcc⟩ := HD.out.some (by have := HL.out; omega)
                obtain ⟨y, hy⟩ : ∃ y, x0[i']? = some y := ⟨_, List.getElem?_eq_getElem (by have := HL.out; omega)⟩
                have hcx : X.cell? ⟨bb, offb + i', none⟩ = some (.int .i64 y) := by
                  have h9 := hcc i' (by have := HL.out; omega)
                  simpa [List.getD, hy] using h9
                have hsu := sumTo_succ (fun x : Int => x) hy
                have q1 := HI.out i'
                have q2 := HI.out (i' + 1)
                have hii : (i' : Int) < (m0 : Int) := by omega
                have r0 : 0 ≤ t := by omega
                have r1 : t ≤ 20000000000 := by omega
                have r2 : 0 ≤ t + y := by omega
                have r3 : t + y ≤ 20000000000 := by omega
                have HS3 : Hid (t + y = s + sumTo (fun x : Int => x) x0 (i' + 1)) := Hid.mk (by omega)
                clear hcc hy hsu q1 q2 hts
                go_wp2
                go_roundw
                case rel => exact ⟨i' + 1, _, by omega, by go_num, rfl, HS3.out, (by first | exact rfl | trivial)⟩
                case measure => simp [intOf]; omega
              · obtain rfl : i' = m0 := by omega
                have HS4 : Hid (t = r + sumTo (fun v : TWire => v.1.sum) ws (j + 1)) := Hid.mk (by
                  have q9 := sumTo_all (fun x : Int => x) x0 HL.out
                  have q8 : (x0.map (fun x : Int => x)).sum = x0.sum := by simp
                  have q7 := HSQ.out
                  have q6 := HST.out
                  omega)
                clear hts
                go_wp2
                go_roundw
                case rel => exact ⟨j + 1, _, by omega, by go_num, rfl, HS4.out, BX.out⟩
                case measure => simp [intOf]; omega
          · obtain rfl : j = n1 := by omega
            rw [HQ.out] at hs
            have hA : s = amtS (ps, ws) := by rw [hs, HR.out]; rfl
            have HAS := Hid.mk hA
            have BZ := Hid.mk (BY.out.trans (hbv.mono BY.out.size))
            clear hs hA hbv
            go_wp2
            refine bodyPost_ret (v := .tuple #[.int .i64 s, .bool true]) (by simp [results, Try.results33, go_sem]) rfl ⟨by rw [HAS.out], BZ.out⟩

set_option maxRecDepth 100000 in
set_option maxHeartbeats 4000000 in
theorem specPictureOf (a0 : Option Addr) (n0 c0 : Nat) (a1 : Option Addr) (n1 c1 : Nat) (ps : List TProc) (ws : List TWire) (w : World) (h0 : ps.length = n0) (h1 : ws.length = n1) (hb0 : n0 ≤ 1048576) (hb1 : n1 ≤ 1048576) (hsm : ∀ (i : Nat) (x : TWire), ws[i]? = some x → costWire x ≤ 1048576) (ha0 : AtSl RProc w a0 ps) (ha1 : AtSl RWire w a1 ws) :
    Calls Try.prog 35 #[.agg #[.slice a0 n0 c0, .slice a1 n1 c1]] w fun e w' => e = .returned (.tuple #[.int .i64 (if picB (ps, ws) then recS (ps, ws) else 0), .bool (picB (ps, ws))]) ∧ Below w.heap.size w w' := by
  have HV : Hid (picB (ps, ws) = (gsB (ps, ws) && ps.all (fun p => p.2.2) && ws.all (fun v => !v.2.2))) := Hid.mk rfl
  have HS : Hid (∀ k, PsOk ps → 0 ≤ sumTo (fun p : TProc => p.2.1) ps k ∧ sumTo (fun p : TProc => p.2.1) ps k ≤ 2000000000 * k) := Hid.mk (fun k hp => sumTo_le _ (by omega) (fun p h => by have := hp p h; omega) k)
  have HT : Hid (∀ k, WsOk ws → 0 ≤ sumTo (fun v : TWire => v.2.1.sum) ws k ∧ sumTo (fun v : TWire => v.2.1.sum) ws k ≤ 200000000 * k) := Hid.mk (fun k hw => sumTo_le _ (by omega) (fun v h => by have := hw v h; omega) k)
  have HP : Hid (sumTo (fun p : TProc => p.2.1) ps n0 = pSav ps) := Hid.mk (sumTo_all _ _ h0)
  have HQ : Hid (sumTo (fun v : TWire => v.2.1.sum) ws n1 = wRec ws) := Hid.mk (sumTo_all _ _ h1)
  have H0 := Hid.mk h0
  have H1 := Hid.mk h1
  obtain ⟨W, hW⟩ : ∃ W, W = w.alloc (.cells #[.slice a0 n0 c0, .slice a1 n1 c1] 26) := ⟨_, rfl⟩
  have B0 : Below w.heap.size w W := by rw [hW]; exact (Below.refl _ _).alloc (Nat.le_refl _) _
  have p0 : W.cell? ⟨w.heap.size, 0, none⟩ = some (.slice a0 n0 c0) := by rw [hW]; simp
  have p1 : W.cell? ⟨w.heap.size, 1, none⟩ = some (.slice a1 n1 c1) := by rw [hW]; simp
  have HA0 := Hid.mk (AtSl.below ha0 B0)
  have HA1 := Hid.mk (AtSl.below ha1 B0)
  have KG := Hid.mk (specGoodSnap a0 n0 c0 a1 n1 c1 ps ws W h0 h1 hb0 hb1 hsm HA0.out HA1.out)
  have HGP := Hid.mk (fun h => gs_parts h0 h1 h)
  clear ha0 ha1 h0 h1 hsm
  cases hg : gsB (ps, ws) with
  | false =>
    rw [hg] at KG
    rw [show picB (ps, ws) = false by rw [HV.out, hg]; rfl]
    go_enter Try.func35, Try.ntmps35
    go_wp2_with fail
    rw [← hW]
    clear hW
    refine KG.out.mono ?_
    rintro e w1 ⟨rfl, hb1⟩
    have p0 := cell_later hb1 p0
    have p1 := cell_later hb1 p1
    have B1 := Hid.mk (B0.trans (hb1.mono B0.size))
    go_wp2
    refine bodyPost_ret (v := .tuple #[.int .i64 0, .bool false]) (by simp [results, Try.results35, go_sem]) rfl ⟨rfl, B1.out⟩
  | true =>
    obtain ⟨g1, g2, g3, g4, g5, g6, g7⟩ := HGP.out hg
    rw [hg] at KG
    have HPS := Hid.mk g5
    have HWS := Hid.mk g6
    have HS := Hid.mk (fun k => HS.out k g5)
    have HT := Hid.mk (fun k => HT.out k g6)
    clear HGP g3 g5 g6 g7
    obtain ⟨V, hV⟩ : ∃ V : Int, (if picB (ps, ws) = true then recS (ps, ws) else 0) = V := ⟨_, rfl⟩
    obtain ⟨PB, hPB⟩ : ∃ b, picB (ps, ws) = b := ⟨_, rfl⟩
    rw [hV, hPB]
    have HVV := Hid.mk hV
    have HPB := Hid.mk hPB
    clear hV hPB
    go_enter Try.func35, Try.ntmps35
    go_wp2_with fail
    rw [← hW]
    clear hW
    refine KG.out.mono ?_
    rintro e w1 ⟨rfl, hb1⟩
    have p0 := cell_later hb1 p0
    have p1 := cell_later hb1 p1
    have B1 := Hid.mk (B0.trans (hb1.mono B0.size))
    have HA0 := Hid.mk (AtSl.below HA0.out hb1)
    have HA1 := Hid.mk (AtSl.below HA1.out hb1)
    clear hb1 KG
    go_wp2_with fail
    go_loopw [4, 17] (fun q i wr => ∃ (k : Nat) (r : Int), k ≤ n0 ∧ i = .int .i64 k ∧ q = .int .i64 r ∧ r = sumTo (fun p : TProc => p.2.1) ps k ∧ ps.all (fun p => p.2.2) = (ps.drop k).all (fun p => p.2.2) ∧ Below w1.heap.size w1 wr) (fun _ i _ => n0 - (intOf i).toNat)
    case atStart => exact ⟨0, 0, Nat.zero_le _, rfl, rfl, (sumTo_zero _ _).symm, rfl, Below.refl _ _⟩
    case round =>
      obtain ⟨k, r, hk, rfl, rfl, hr, hd, hbw⟩ := hrel
      obtain ⟨wY, rfl⟩ : ∃ x, x = wr := ⟨_, rfl⟩
      by_cases hlt : k < n0
      · obtain ⟨b, off, rfl, _, hc⟩ := RProc.row (AtSl.below HA0.out hbw) (by have := H0.out; omega)
        obtain ⟨⟨z0, z1, bo⟩, hx⟩ : ∃ x, ps[k]? = some x := ⟨_, List.getElem?_eq_getElem (by have := H0.out; omega)⟩
        obtain ⟨y0, y1, y2, _⟩ := hc k _ hx
        have hs := sumTo_succ (fun p : TProc => p.2.1) hx
        have q1 := HS.out k
        have q2 := HS.out (k + 1)
        have hki : (k : Int) < (n0 : Int) := by omega
        simp only at hs y0 y1 y2
        have u0 : 0 ≤ r := by omega
        have u1 : r ≤ 9000000000 := by omega
        have u2 : 0 ≤ r + z1 := by omega
        have u3 : r + z1 ≤ 9000000000 := by omega
        have HR : Hid (r + z1 = sumTo (fun p : TProc => p.2.1) ps (k + 1)) := Hid.mk (by omega)
        rw [all_row hx] at hd
        have HD := Hid.mk hd
        clear hc hx hs q1 q2 hr hd
        cases bo with
        | false =>
          have HPF : Hid (picB (ps, ws) = false) := Hid.mk (by rw [HV.out, HD.out]; simp)
          go_wp2
          refine bodyPost_ret (v := .tuple #[.int .i64 0, .bool false]) (by simp [results, Try.results35, go_sem]) rfl ⟨by rw [← HVV.out, ← HPB.out, HPF.out]; rfl, B1.out.trans ((hbw.alloc hbw.size _).mono B1.out.size)⟩
        | true =>
          go_wp2
          go_roundw
          case rel => exact ⟨k + 1, _, by omega, by go_num, rfl, HR.out, by rw [HD.out]; rfl, hbw.alloc hbw.size _⟩
          case measure => simp [intOf]; omega
      · obtain rfl : k = n0 := by omega
        rw [HP.out] at hr
        have hp0 := HS.out k
        rw [HP.out] at hp0
        have p1 := cell_later hbw p1
        have u0 : 0 ≤ r := by omega
        have u1 : r ≤ 8000000000 := by omega
        have HR := Hid.mk hr
        have HA1 := Hid.mk (AtSl.below HA1.out hbw)
        have BY := Hid.mk (B1.out.trans (hbw.mono B1.out.size))
        have hdk : ps.all (fun p => p.2.2) = true := by rw [hd, List.drop_of_length_le (by have := H0.out; omega)]; rfl
        have HV2 : Hid (picB (ps, ws) = ws.all (fun v => !v.2.2)) := Hid.mk (by rw [HV.out, hg, hdk]; simp)
        clear hd hdk
        clear hr hp0 hbw
        go_wp2_with fail
        go_loopw [4, 32] (fun q i wr => ∃ (j : Nat) (s : Int), j ≤ n1 ∧ i = .int .i64 j ∧ q = .int .i64 s ∧ s = r + sumTo (fun v : TWire => v.2.1.sum) ws j ∧ ws.all (fun v => !v.2.2) = (ws.drop j).all (fun v => !v.2.2) ∧ Below wY.heap.size wY wr) (fun _ i _ => n1 - (intOf i).toNat)
        case atStart => exact ⟨0, r, Nat.zero_le _, rfl, rfl, by rw [sumTo_zero]; omega, rfl, Below.refl _ _⟩
        case round =>
          obtain ⟨j, s, hj, rfl, rfl, hs, hw, hbv⟩ := hrel
          obtain ⟨wZ, rfl⟩ : ∃ x, x = wr := ⟨_, rfl⟩
          by_cases hjt : j < n1
          · obtain ⟨b, off, rfl, hb, hc⟩ := RWire.row (AtSl.below HA1.out hbv) (by have := H1.out; omega)
            obtain ⟨⟨x0, x1, bo⟩, hx⟩ : ∃ x, ws[j]? = some x := ⟨_, List.getElem?_eq_getElem (by have := H1.out; omega)⟩
            obtain ⟨d0, m0, e0, d1, m1, e1, y0, y1, y2, ⟨t01, t02, t03, _⟩, ⟨t11, t12, t13, _⟩⟩ := hc j _ hx
            have hok := HWS.out _ (List.mem_of_getElem? hx)
            have hst := sumTo_succ (fun v : TWire => v.2.1.sum) hx
            have q1 := HT.out j
            have q2 := HT.out (j + 1)
            have hki : (j : Int) < (n1 : Int) := by omega
            simp only at hst hok y0 y1 y2 t01 t03 t11 t13
            obtain ⟨X, hX⟩ : ∃ X, X = wZ.alloc (.cells #[.slice d0 m0 e0, .slice d1 m1 e1, .bool bo] 74) := ⟨_, rfl⟩
            have bX : Below wZ.heap.size wZ X := by rw [hX]; exact (Below.refl _ _).alloc (Nat.le_refl _) _
            have v0 : X.cell? ⟨wZ.heap.size, 0, none⟩ = some (.slice d0 m0 e0) := by rw [hX]; simp
            have v1 : X.cell? ⟨wZ.heap.size, 1, none⟩ = some (.slice d1 m1 e1) := by rw [hX]; simp
            have v2 : X.cell? ⟨wZ.heap.size, 2, none⟩ = some (.bool bo) := by rw [hX]; simp
            have HD := Hid.mk (At.below t13 bX)
            have HL := Hid.mk t11
            have HI : Hid (∀ i', 0 ≤ sumTo (fun x : Int => x) x1 i' ∧ sumTo (fun x : Int => x) x1 i' ≤ 1000000 * i') := Hid.mk (sumTo_le _ (by omega) hok.2.2.2.2.2.2.2)
            have hlm : m1 ≤ 200 := by omega
            have u4 : 0 ≤ s := by omega
            have u5 : s ≤ 18000000000 := by omega
            have BX := Hid.mk (hbv.trans (bX.mono hbv.size))
            have HSQ := Hid.mk hs
            have HST := Hid.mk hst
            rw [all_row hx] at hw
            have HW := Hid.mk hw
            clear hw
            clear hc hx hst q1 q2 hs hok bX t01 t03 t11 t13
            cases bo with
            | true =>
              have HPF : Hid (picB (ps, ws) = false) := Hid.mk (by rw [HV2.out, HW.out]; simp)
              go_wp2
              refine bodyPost_ret (v := .tuple #[.int .i64 0, .bool false]) (by simp [results, Try.results35, go_sem]) rfl ⟨by rw [← HVV.out, ← HPB.out, HPF.out]; rfl, by rw [← hX]; exact BY.out.trans (BX.out.mono BY.out.size)⟩
            | false =>
              have HW3 : Hid (ws.all (fun v => !v.2.2) = (ws.drop (j + 1)).all (fun v => !v.2.2)) := Hid.mk (by rw [HW.out]; rfl)
              go_wp2_with fail
              rw [← hX]
              clear hX
              go_loopw [4, 41] (fun q i wr => ∃ (i' : Nat) (t : Int), i' ≤ m1 ∧ i = .int .i64 i' ∧ q = .int .i64 t ∧ t = s + sumTo (fun x : Int => x) x1 i' ∧ wr = X) (fun _ i _ => m1 - (intOf i).toNat)
              case atStart => exact ⟨0, s, Nat.zero_le _, rfl, rfl, by rw [sumTo_zero]; omega, rfl⟩
              case round =>
                obtain ⟨i', t, hi, rfl, rfl, hts, hwX⟩ := hrel
                obtain rfl := hwX.symm
                by_cases hit : i' < m1
                · obtain ⟨bb, offb, rfl, _, hcc⟩ := HD.out.some (by have := HL.out; omega)
                  obtain ⟨y, hy⟩ : ∃ y, x1[i']? = some y := ⟨_, List.getElem?_eq_getElem (by have := HL.out; omega)⟩
                  have hcx : X.cell? ⟨bb, offb + i', none⟩ = some (.int .i64 y) := by
                    have h9 := hcc i' (by have := HL.out; omega)
                    simpa [List.getD, hy] using h9
                  have hsu := sumTo_succ (fun x : Int => x) hy
                  have q1 := HI.out i'
                  have q2 := HI.out (i' + 1)
                  have hii : (i' : Int) < (m1 : Int) := by omega
                  have r0 : 0 ≤ t := by omega
                  have r1 : t ≤ 20000000000 := by omega
                  have r2 : 0 ≤ t + y := by omega
                  have r3 : t + y ≤ 20000000000 := by omega
                  have HS3 : Hid (t + y = s + sumTo (fun x : Int => x) x1 (i' + 1)) := Hid.mk (by omega)
                  clear hcc hy hsu q1 q2 hts
                  go_wp2
                  go_roundw
                  case rel => exact ⟨i' + 1, _, by omega, by go_num, rfl, HS3.out, (by first | exact rfl | trivial)⟩
                  case measure => simp [intOf]; omega
                · obtain rfl : i' = m1 := by omega
                  have HS4 : Hid (t = r + sumTo (fun v : TWire => v.2.1.sum) ws (j + 1)) := Hid.mk (by
                    have q9 := sumTo_all (fun x : Int => x) x1 HL.out
                    have q8 : (x1.map (fun x : Int => x)).sum = x1.sum := by simp
                    have q7 := HSQ.out
                    have q6 := HST.out
                    omega)
                  clear hts
                  go_wp2
                  go_roundw
                  case rel => exact ⟨j + 1, _, by omega, by go_num, rfl, HS4.out, HW3.out, BX.out⟩
                  case measure => simp [intOf]; omega
          · obtain rfl : j = n1 := by omega
            rw [HQ.out] at hs
            have hA : s = recS (ps, ws) := by rw [hs, HR.out]; rfl
            have HAS := Hid.mk hA
            have BZ := Hid.mk (BY.out.trans (hbv.mono BY.out.size))
            have HPF : Hid (picB (ps, ws) = true) := Hid.mk (by rw [HV2.out, hw, List.drop_of_length_le (by have := H1.out; omega)]; rfl)
            clear hw
            clear hs hA hbv
            go_wp2
            refine bodyPost_ret (v := .tuple #[.int .i64 s, .bool true]) (by simp [results, Try.results35, go_sem]) rfl ⟨by rw [← HVV.out, ← HPB.out, HPF.out]; rw [HAS.out]; rfl, BZ.out⟩

end Go.Proofs.Ythfndafgllcelaa
