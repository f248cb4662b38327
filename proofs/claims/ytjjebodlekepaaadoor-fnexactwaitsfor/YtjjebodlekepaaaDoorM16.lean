/- Several texts of one proof, in build order: WfM, KrU, WfU, LkH. -/
import Derived.Test.YtjjebodlekepaaaDoorM12
import Derived.Test.YtjjebodlekepaaaDoorM14
import Derived.Test.YtjjebodlekepaaaDoorM15
import Derived.Test.YtjjebodlekepaaaDoorM7
import Derived.Test.YtjjebodlekepaaaDoorM5
import Derived.Deep.CutBlock
import Derived.Test.YtjjebodlekepaaaDoorM0
import Derived.Test.YtjjebodlekepaaaDoorM13
import Derived.Test.YtjjebodlekepaaaDoorM4
import Derived.Test.YtjjebodlekepaaaDoorM3

/- Contracts of spec.l14WaitsFor and spec.WaitsFor. -/
namespace Go.Proofs.YtjjebodlekepaaaDoor
open Go.RowKit

set_option maxRecDepth 100000 in
set_option maxHeartbeats 4000000 in
theorem l14WaitsFor_any (a0 : Option Addr) (a1 : Option Addr) (a2 : Option Addr) (a3 : Option Addr) (a4 : Option Addr) (n0 c0 n1 c1 n2 c2 n3 c3 n4 c4 : Nat) (x0 x1 x2 : List TStep) (x3 x4 : List Int) (w : World) (hz0 : x0.length = n0) (ha0 : At w a0 (flStep x0)) (hz1 : x1.length = n1) (ha1 : At w a1 (flStep x1)) (hz2 : x2.length = n2) (ha2 : At w a2 (flStep x2)) (hz3 : x3.length = n3) (ha3 : At w a3 x3) (hz4 : x4.length = n4) (ha4 : At w a4 x4) (hg : glB (x0, x1, x2, x3, x4) = true) :
    Calls Tryd.prog 41 #[.agg #[.slice a0 n0 c0, .slice a1 n1 c1, .slice a2 n2 c2, .slice a3 n3 c3, .slice a4 n4 c4]] w fun e w' => (∃ G, e = .returned (.slice (some ⟨G, 0, none⟩) 6 6) ∧ w.heap.size ≤ G ∧ RowsN w' G (G + 1) (wfO x0 x1 n1)) ∧ Below w.heap.size w w' := by
  obtain ⟨W, hW⟩ : ∃ W, W = w.alloc (.cells #[.slice a0 n0 c0, .slice a1 n1 c1, .slice a2 n2 c2, .slice a3 n3 c3, .slice a4 n4 c4] 30) := ⟨_, rfl⟩
  have B0 : Below w.heap.size w W := by rw [hW]; exact (Below.refl _ _).alloc (Nat.le_refl _) _
  have p0 : W.cell? ⟨w.heap.size, 0, none⟩ = some (.slice a0 n0 c0) := by rw [hW]; simp
  have p1 : W.cell? ⟨w.heap.size, 1, none⟩ = some (.slice a1 n1 c1) := by rw [hW]; simp
  have p2 : W.cell? ⟨w.heap.size, 2, none⟩ = some (.slice a2 n2 c2) := by rw [hW]; simp
  have p3 : W.cell? ⟨w.heap.size, 3, none⟩ = some (.slice a3 n3 c3) := by rw [hW]; simp
  have p4 : W.cell? ⟨w.heap.size, 4, none⟩ = some (.slice a4 n4 c4) := by rw [hW]; simp
  have HP0 := Hid.mk p0
  have HP1 := Hid.mk p1
  have HP2 := Hid.mk p2
  have HP3 := Hid.mk p3
  have HP4 := Hid.mk p4
  have HBW := Hid.mk B0
  have HA0 := Hid.mk (At.below ha0 HBW.out)
  have HZ0 := Hid.mk hz0
  clear ha0 hz0
  have HA1 := Hid.mk (At.below ha1 HBW.out)
  have HZ1 := Hid.mk hz1
  clear ha1 hz1
  have HA2 := Hid.mk (At.below ha2 HBW.out)
  have HZ2 := Hid.mk hz2
  clear ha2 hz2
  have HA3 := Hid.mk (At.below ha3 HBW.out)
  have HZ3 := Hid.mk hz3
  clear ha3 hz3
  have HA4 := Hid.mk (At.below ha4 HBW.out)
  have HZ4 := Hid.mk hz4
  clear ha4 hz4
  have HG0 := Hid.mk (gl_held hg).1
  have HG1 := Hid.mk (gl_waits hg)
  have HND := Hid.mk (gl_nodup hg)
  have hn0 : n0 ≤ 40 := by have := gp_len HG0.out; have := HZ0.out; omega
  have hn1 : n1 ≤ 40 := by have := gp_len HG1.out; have := HZ1.out; omega
  obtain ⟨j0, hj0, hy0, hy1, hy2⟩ := info_parts Tryd.infoInts
  obtain ⟨G, hG⟩ : ∃ G, W.heap.size = G := ⟨_, rfl⟩
  clear B0 hg
  go_enter Tryd.func41, Tryd.ntmps41
  go_upto_region 1 with fail
  rw [← hW]
  clear hW
  go_wp2_with (at_make; refine wpList_make_full _ rfl _ _ 34 rfl W.heap.size 23 j0 (.slice none 0 0) 1 Tryd.underlying34 hj0 hy0 hy1 .i64 .i64 _ _ 6 rfl rfl rfl rfl (by rw [hy2]; omega) (by unfold maxLen; omega) (Nat.le_refl _) ?_; intro w1 hown hgr; have hb1 : Below W.heap.size W w1 := (Below.refl _ _).grown hgr (Nat.le_refl _) (by simp); have p0 := cell_later hb1 HP0.out; have p1 := cell_later hb1 HP1.out)
  (try rw [hG] at hown)
  have hi1 : RowsN w1 G (G + 1) (wfO x0 x1 0) := by
    have e6 : (madeCells (Value.slice none 0 0).cells (6 * 1)).toList = List.replicate 6 (Value.slice none 0 0) := by simp [madeCells, Value.cells, List.range, List.range.loop, List.replicate]
    rw [e6] at hown
    exact RowsN.new (own_rowC hown)
  have hG1 : G + 1 ≤ w1.heap.size := by
    rcases hown.2 with ⟨h, _⟩ | ⟨g', cap, cur, hv, _, hh, _⟩
    · cases h
    · simp only [Value.slice.injEq, Option.some.injEq, Addr.mk.injEq, true_and, and_true] at hv
      obtain ⟨rfl, _⟩ := hv
      exact (Array.getElem?_eq_some_iff.1 hh).1
  (try rw [hG])
  have HI1 := Hid.mk hi1
  have HB1 := Hid.mk hb1
  clear hi1 hb1 hown hgr
  go_wp2
  go_loopw [12] (fun i wr => ∃ (k : Nat), k ≤ n1 ∧ i = .int .i64 k ∧ (RowsN wr G (G + 1) (wfO x0 x1 k)) ∧ G + 1 ≤ wr.heap.size ∧ Below W.heap.size W wr) (fun i _ => n1 - (intOf i).toNat)
  case atStart => exact ⟨0, Nat.zero_le _, rfl, HI1.out, hG1, HB1.out⟩
  case round =>
    clear HI1 HB1 p0 p1
    obtain ⟨k, hk, rfl, hi, hGw, hbw⟩ := hrel
    obtain ⟨wY, rfl⟩ : ∃ x, x = wr := ⟨_, rfl⟩
    by_cases hlt : k < n1
    · obtain ⟨⟨z0, z1, z2⟩, hx⟩ : ∃ x, x1[k]? = some x := ⟨_, List.getElem?_eq_getElem (by have := HZ1.out; omega)⟩
      obtain ⟨b, off, rfl, hb, hc⟩ := flStep_some HA1.out (by have := HZ1.out; omega)
      obtain ⟨e0, e1, e2⟩ := hc k _ hx
      have e0 := cell_later hbw e0
      have e1 := cell_later hbw e1
      have e2 := cell_later hbw e2
      have hgx := gp_at HG1.out hx
      simp only at e0 e1 e2 hgx
      obtain ⟨t, rfl⟩ : ∃ t : Nat, z0 = (t : Int) := ⟨z0.toNat, by omega⟩
      have ht6 : t < 6 := by omega
      have ht6i : (t : Int) < 6 := by omega
      have hki : (k : Int) < (n1 : Int) := by omega
      have p0 := cell_later hbw HP0.out
      have p1 := cell_later hbw HP1.out
      obtain ⟨V, hV⟩ : ∃ V, V = wY.alloc (.cells #[.int .i64 (t : Int), .int .i64 z1, .int .i64 z2] 51) := ⟨_, rfl⟩
      have hbV : Below wY.heap.size wY V := by rw [hV]; exact (Below.refl _ _).alloc (Nat.le_refl _) _
      have v0 : V.cell? ⟨wY.heap.size, 0, none⟩ = some (.int .i64 (t : Int)) := by rw [hV]; simp
      have v1 : V.cell? ⟨wY.heap.size, 1, none⟩ = some (.int .i64 z1) := by rw [hV]; simp
      have v2 : V.cell? ⟨wY.heap.size, 2, none⟩ = some (.int .i64 z2) := by rw [hV]; simp
      have p0 := cell_later hbV p0
      have hfr := wfO_fresh (H := x0) HND.out (fun y hy => (gp_txn HG1.out y hy).1) hx
      have hsix := wfO_six (H := x0) (fun y hy => (gp_txn HG0.out y hy).2) x1 k
      have hsu := wfO_succ (H := x0) hx
      simp only [Int.toNat_natCast] at hfr hsu
      obtain ⟨CS0, hCS0⟩ : ∃ CS, wfO x0 x1 k = CS := ⟨_, rfl⟩
      rw [hCS0] at hi hfr hsix hsu
      have HSIX0 := Hid.mk hsix
      have HSU := Hid.mk hsu
      have HIV : Hid (RowsN V G (G + 1) (CS0.set t 0)) := Hid.mk (by rw [set_same hfr]; exact hi.below hbV)
      have HBV := Hid.mk (hbw.trans (hbV.mono hbw.size))
      have hGV : G + 1 ≤ V.heap.size := Nat.le_trans hGw hbV.size
      have hYG : wY.heap.size ≠ G := by omega
      have HA0V := Hid.mk (At.below HA0.out HBV.out)
      clear hc hx hi hbw hbV hgx hsu hCS0 hsix hfr
      go_upto_region 5 with fail
      rw [← hV]
      clear hV e0 e1 e2
      go_wp2
      go_loopw [19] (fun i wr => ∃ (j : Nat), j ≤ n0 ∧ i = .int .i64 j ∧ RowsN wr G (G + 1) (CS0.set t (byF (x0.take j) ((t : Int), z1, z2))) ∧ Off (fun b => b = G) V wr ∧ Below W.heap.size W wr) (fun i _ => n0 - (intOf i).toNat)
      case atStart => exact ⟨0, Nat.zero_le _, rfl, HIV.out, Off.refl _ _, HBV.out⟩
      case round =>
        clear HIV HBV
        obtain ⟨j, hj, rfl, hi, hof, hbw⟩ := hrel
        obtain ⟨wZ, rfl⟩ : ∃ x, x = wr := ⟨_, rfl⟩
        by_cases hjn : j < n0
        · obtain ⟨⟨y0, y1, y2⟩, hy⟩ : ∃ x, x0[j]? = some x := ⟨_, List.getElem?_eq_getElem (by have := HZ0.out; omega)⟩
          have hgy := gp_at HG0.out hy
          obtain ⟨b9, off9, rfl, hb9, hc⟩ := flStep_some HA0V.out (by have := HZ0.out; omega)
          obtain ⟨d0, d1, d2⟩ := hc j _ hy
          have hb9G : b9 ≠ G := by
            obtain ⟨b8, off8, e8, hb8, _⟩ := flStep_some HA0.out (by have := HZ0.out; omega)
            simp only [Option.some.injEq, Addr.mk.injEq, and_true] at e8
            omega
          have d0 := hof.cell d0 hb9G
          have d1 := hof.cell d1 hb9G
          have d2 := hof.cell d2 hb9G
          have g0 := hof.cell v0 hYG
          have g1 := hof.cell v1 hYG
          have g2 := hof.cell v2 hYG
          simp only at d0 d1 d2 hgy
          have hy0 : 0 ≤ y0 := by omega
          have hy6 : y0 < 6 := by omega
          have hji : (j : Int) < (n0 : Int) := by omega
          have htk := byF_take (x := ((t : Int), z1, z2)) hy
          obtain ⟨S0, hS0⟩ : ∃ S, byF (x0.take j) ((t : Int), z1, z2) = S := ⟨_, rfl⟩
          have hS06 : S0 < 64 := by rw [← hS0]; exact byF_lt (fun y hy => (gp_txn HG0.out y (List.mem_of_mem_take hy)).2)
          rw [hS0] at hi htk
          have HTK := Hid.mk htk
          have hsix := HSIX0.out.set t hS06
          have hgt : (CS0.set t S0).getD t 0 = S0 := set_getD (by rw [HSIX0.out.1]; exact ht6)
          have hss : ∀ D, (CS0.set t S0).set t D = CS0.set t D := fun D => by rw [List.set_set]
          have HSS := Hid.mk hss
          obtain ⟨CS, hCS⟩ : ∃ CS, CS0.set t S0 = CS := ⟨_, rfl⟩
          rw [hCS] at hi hsix hgt
          have HCS := Hid.mk hCS
          obtain ⟨U, hU⟩ : ∃ U, U = wZ.alloc (.cells #[.int .i64 y0, .int .i64 y1, .int .i64 y2] 51) := ⟨_, rfl⟩
          have hbU : Below wZ.heap.size wZ U := by rw [hU]; exact (Below.refl _ _).alloc (Nat.le_refl _) _
          have u0 : U.cell? ⟨wZ.heap.size, 0, none⟩ = some (.int .i64 y0) := by rw [hU]; simp
          have u1 : U.cell? ⟨wZ.heap.size, 1, none⟩ = some (.int .i64 y1) := by rw [hU]; simp
          have u2 : U.cell? ⟨wZ.heap.size, 2, none⟩ = some (.int .i64 y2) := by rw [hU]; simp
          have g0 := cell_later hbU g0
          have g1 := cell_later hbU g1
          have g2 := cell_later hbU g2
          have HIU : Hid (RowsN U G (G + 1) CS) := Hid.mk (hi.below hbU)
          have HFU := Hid.mk (hof.trans (Off.below hbU))
          have HBU := Hid.mk (hbw.trans (hbU.mono hbw.size))
          have hZG : wZ.heap.size ≠ G := by have := hof.size; omega
          have KC := Hid.mk (l13Clash_any y0 y1 y2 (t : Int) z1 z2 U)
          clear hc hy hi hof hbw hbU htk hCS hS0 hss
          go_upto_region 8 with fail
          rw [← hU]
          clear hU d0 d1 d2
          go_wp2_with fail
          refine KC.out.mono ?_
          rintro e w3 ⟨rfl, hb3⟩
          have s0 := cell_later hb3 g0
          have s1 := cell_later hb3 u0
          have HI3 : Hid (RowsN w3 G (G + 1) CS) := Hid.mk (HIU.out.below hb3)
          have HF3 := Hid.mk (HFU.out.trans (Off.below hb3))
          have HB3 := Hid.mk (HBU.out.trans (hb3.mono HBU.out.size))
          clear hb3 KC g0 g1 g2 u0 u1 u2 HIU HFU HBU
          cases hcl : clB (y0, y1, y2) ((t : Int), z1, z2) with
          | false =>
            have HIN : Hid (RowsN w3 G (G + 1) (CS0.set t (byF (x0.take (j + 1)) ((t : Int), z1, z2)))) := Hid.mk (by rw [HTK.out, hcl]; simp only [Bool.false_eq_true, if_false]; rw [HCS.out]; exact HI3.out)
            clear HI3
            go_wp2
            go_roundw
            case rel => exact ⟨j + 1, by omega, by go_num, HIN.out, HF3.out, HB3.out⟩
            case measure => simp [intOf]; omega
          | true =>
          have hCt := hsix.get t
          obtain ⟨C, hC⟩ : ∃ C, CS.getD t 0 = C := ⟨_, rfl⟩
          rw [hC] at hCt
          obtain ⟨D, hD⟩ : ∃ D, C ||| 2 ^ y0.toNat = D := ⟨_, rfl⟩
          have HN : Hid (CS0.set t (byF (x0.take (j + 1)) ((t : Int), z1, z2)) = CS.set t D) := Hid.mk (by
            rw [HTK.out, hcl]; simp only [if_true]; rw [← hD, ← hC, hgt, ← HCS.out, HSS.out])
          have HINS : Hid (insI (bl C) y0 = bl D) := Hid.mk (by rw [insI_bl hCt hy0 hy6, hD])
          have HI3D : Hid (RowsN w3.drew G (G + 1) CS) := Hid.mk (HI3.out.below (Below.refl _ _).drew)
          have htl : t < CS.length := by rw [hsix.1]; omega
          have hG3 : G + 1 ≤ w3.drew.heap.size := Nat.le_trans hGV HF3.out.size
          obtain ⟨r, m, d, hcG, hfG, hl1, ho1⟩ := HI3D.out.cell htl
          rw [hC] at hl1 ho1
          have hm6 : m ≤ 6 := by rw [← hl1]; exact bl_len C
          have KP := Hid.mk (l7Put_far (G + 1) r m d (bl C) y0 w3.drew hl1 (by omega) ho1)
          clear hl1 ho1
          go_upto_region 9 with fail
          refine wp_region_held_drew (S := fun w' => w'.cell? ⟨wY.heap.size, 0, none⟩ = some (.int .i64 (t : Int)) ∧ w'.cell? ⟨wZ.heap.size, 0, none⟩ = some (.int .i64 y0)) (by kernel_rfl) ?_ (fun hHeld => ?_)
          · (try dsimp only)
            exact ⟨s0, s1⟩
          refine tk 0 ?_
          refine tk 1 ?_
          refine tk 2 ?_
          refine tk 3 ?_
          refine tk 4 ?_
          refine tk 5 ?_
          refine tk 6 ?_
          refine tk 8 ?_
          refine tk 9 ?_
          refine wpAnyH_ready (rs := [7]) (by kernel_rfl) (by simp) ?_
          refine AllReadyH.cons (o := ?_) ?_ (fun K hK => ?_) AllReadyH.nil
          rotate_left
          · (simp only [List.getElem?_toArray, List.getElem?_cons_zero, List.getElem?_cons_succ]; rfl)
          go_simp
          skip
          (try go_wp2_with fail)
          refine hK.out _ _ ?_ (fun hHeld' => ?_)
          · (try dsimp only)
            exact ⟨s0, s1⟩
          clear hK K hHeld
          have hHeld := hHeld'
          clear hHeld'
          (try simp only [Act.put, List.setIfInBounds_toArray, List.set_cons_zero, List.set_cons_succ])
          refine tr 10 (fun K hK => ?_)
          go_simp
          go_at_call 61
          refine (KP.out).mono ?_
          rintro e w4 ⟨r2, m2, d2, rfl, hl2, ho2, hb4⟩
          have hb4' : Below w3.heap.size w3 w4 := (Below.refl _ _).drew.trans hb4
          have s0 := cell_later hb4' s0
          have s1 := cell_later hb4' s1
          (try go_wp2_with fail)
          refine hK.out _ _ ?_ (fun hHeld' => ?_)
          · (try dsimp only)
            exact ⟨s0, s1⟩
          clear hK K hHeld
          have hHeld := hHeld'
          clear hHeld'
          (try simp only [Act.put, List.setIfInBounds_toArray, List.set_cons_zero, List.set_cons_succ])
          refine tk 11 ?_
          obtain ⟨X, hX⟩ : ∃ u, u = w4.setCell ⟨G, t, none⟩ (.slice r2 m2 d2) := ⟨_, rfl⟩
          have HIX : Hid (RowsN X G (G + 1) (CS.set t D)) := Hid.mk (by rw [hX]; exact RowsN.turn HI3D.out (Nat.lt_succ_self _) hG3 hb4 htl hcG (by rw [← HINS.out]; exact hl2) (by rw [← HINS.out, hC]; exact ho2))
          have HFX : Hid (Off (fun b => b = G) V X) := Hid.mk (by rw [hX]; exact (HF3.out.trans (Off.below hb4')).trans (Off.set (F := fun b => b = G) (a := ⟨G, t, none⟩) rfl _))
          have HBX : Hid (Below W.heap.size W X) := Hid.mk (by rw [hX]; exact (HB3.out.trans (hb4'.mono HB3.out.size)).setCell (p := ⟨G, t, none⟩) (by show W.heap.size ≤ G; omega) _)
          obtain ⟨_, _, _, q4, f4, _, _⟩ := (HI3D.out.below hb4).cell htl
          have s0 : X.cell? ⟨wY.heap.size, 0, none⟩ = some (.int .i64 (t : Int)) := by rw [hX]; exact keep_far s0 hYG
          have s1 : X.cell? ⟨wZ.heap.size, 0, none⟩ = some (.int .i64 y0) := by rw [hX]; exact keep_far s1 hZG
          refine tr 12 (fun K hK => ?_)
          go_simp
          rw [← hX]
          clear hX
          (try go_wp2_with fail)
          refine hK.out _ _ ?_ (fun hHeld' => ?_)
          · (try dsimp only)
            exact ⟨s0, s1⟩
          clear hK K hHeld hHeld'
          (try simp only [Act.put, List.setIfInBounds_toArray, List.set_cons_zero, List.set_cons_succ])
          refine wpAnyH_done (by kernel_rfl) ?_ _
          have HIN : Hid (RowsN X G (G + 1) (CS0.set t (byF (x0.take (j + 1)) ((t : Int), z1, z2)))) := Hid.mk (by rw [HN.out]; exact HIX.out)
          go_wp2
          go_roundw
          case rel => exact ⟨j + 1, by omega, by go_num, HIN.out, HFX.out, HBX.out⟩
          case measure => simp [intOf]; omega
        · have hji : ¬ (j : Int) < (n0 : Int) := by omega
          have HIN : Hid (RowsN wZ G (G + 1) (wfO x0 x1 (k + 1))) := Hid.mk (by
            rw [List.take_of_length_le (by have := HZ0.out; omega)] at hi
            rw [HSU.out]; exact hi)
          have hGZ : G + 1 ≤ wZ.heap.size := Nat.le_trans hGV hof.size
          have HB := Hid.mk hbw
          clear hi hof hbw
          go_wp2
          go_roundw
          case rel => exact ⟨k + 1, by omega, by go_num, HIN.out, hGZ, HB.out⟩
          case measure => simp [intOf]; omega
    · obtain rfl : n1 = k := by omega
      have hki : ¬ (n1 : Int) < (n1 : Int) := by omega
      have HI2 := Hid.mk hi
      have HB2 := Hid.mk (HBW.out.trans (hbw.mono HBW.out.size))
      have hGW : w.heap.size ≤ G := by have := HBW.out.size; omega
      clear hi hbw
      go_wp2
      go_ret
      exact ⟨⟨G, rfl, hGW, HI2.out⟩, HB2.out⟩

set_option maxRecDepth 100000 in
set_option maxHeartbeats 2000000 in
theorem specWaitsFor (a0 : Option Addr) (a1 : Option Addr) (a2 : Option Addr) (a3 : Option Addr) (a4 : Option Addr) (n0 c0 n1 c1 n2 c2 n3 c3 n4 c4 : Nat) (x0 x1 x2 : List TStep) (x3 x4 : List Int) (w : World) (hz0 : x0.length = n0) (hs0 : n0 ≤ 1048576) (hc0 : n0 ≤ c0) (hF0 : a0 = none → c0 = 0) (ha0 : At w a0 (flStep x0)) (hz1 : x1.length = n1) (hs1 : n1 ≤ 1048576) (hc1 : n1 ≤ c1) (hF1 : a1 = none → c1 = 0) (ha1 : At w a1 (flStep x1)) (hz2 : x2.length = n2) (hs2 : n2 ≤ 1048576) (hc2 : n2 ≤ c2) (hF2 : a2 = none → c2 = 0) (ha2 : At w a2 (flStep x2)) (hz3 : x3.length = n3) (hs3 : n3 ≤ 1048576) (hc3 : n3 ≤ c3) (hF3 : a3 = none → c3 = 0) (ha3 : At w a3 x3) (hz4 : x4.length = n4) (hs4 : n4 ≤ 1048576) (hc4 : n4 ≤ c4) (hF4 : a4 = none → c4 = 0) (ha4 : At w a4 x4) :
    Calls Tryd.prog 12 #[.agg #[.slice a0 n0 c0, .slice a1 n1 c1, .slice a2 n2 c2, .slice a3 n3 c3, .slice a4 n4 c4]] w fun e w' => KeysRet e w' w.heap.size (glB (x0, x1, x2, x3, x4)) (wfL (x0, x1, x2, x3, x4)) ∧ Below w.heap.size w w' := by
  obtain ⟨W, hW⟩ : ∃ W, W = w.alloc (.cells #[.slice a0 n0 c0, .slice a1 n1 c1, .slice a2 n2 c2, .slice a3 n3 c3, .slice a4 n4 c4] 30) := ⟨_, rfl⟩
  have B0 : Below w.heap.size w W := by rw [hW]; exact (Below.refl _ _).alloc (Nat.le_refl _) _
  have p0 : W.cell? ⟨w.heap.size, 0, none⟩ = some (.slice a0 n0 c0) := by rw [hW]; simp
  have p1 : W.cell? ⟨w.heap.size, 1, none⟩ = some (.slice a1 n1 c1) := by rw [hW]; simp
  have p2 : W.cell? ⟨w.heap.size, 2, none⟩ = some (.slice a2 n2 c2) := by rw [hW]; simp
  have p3 : W.cell? ⟨w.heap.size, 3, none⟩ = some (.slice a3 n3 c3) := by rw [hW]; simp
  have p4 : W.cell? ⟨w.heap.size, 4, none⟩ = some (.slice a4 n4 c4) := by rw [hW]; simp
  have HP0 := Hid.mk p0
  have HP1 := Hid.mk p1
  have HP2 := Hid.mk p2
  have HP3 := Hid.mk p3
  have HP4 := Hid.mk p4
  have KG := Hid.mk (specGoodLocks a0 a1 a2 a3 a4 n0 c0 n1 c1 n2 c2 n3 c3 n4 c4 x0 x1 x2 x3 x4 W hz0 hs0 hc0 hF0 (At.below ha0 B0) hz1 hs1 hc1 hF1 (At.below ha1 B0) hz2 hs2 hc2 hF2 (At.below ha2 B0) hz3 hs3 hc3 hF3 (At.below ha3 B0) hz4 hs4 hc4 hF4 (At.below ha4 B0))
  have HBW := Hid.mk B0
  have HA0 := Hid.mk (At.below ha0 HBW.out)
  have HZ0 := Hid.mk hz0
  clear ha0 hz0
  have HA1 := Hid.mk (At.below ha1 HBW.out)
  have HZ1 := Hid.mk hz1
  clear ha1 hz1
  have HA2 := Hid.mk (At.below ha2 HBW.out)
  have HZ2 := Hid.mk hz2
  clear ha2 hz2
  have HA3 := Hid.mk (At.below ha3 HBW.out)
  have HZ3 := Hid.mk hz3
  clear ha3 hz3
  have HA4 := Hid.mk (At.below ha4 HBW.out)
  have HZ4 := Hid.mk hz4
  clear ha4 hz4
  clear B0
  go_enter Tryd.func12, Tryd.ntmps12
  go_wp2_with fail
  rw [← hW]
  clear hW
  refine KG.out.mono ?_
  rintro e w1 ⟨rfl, hb1⟩
  have p0 := cell_later hb1 p0
  have p1 := cell_later hb1 p1
  have p2 := cell_later hb1 p2
  have p3 := cell_later hb1 p3
  have p4 := cell_later hb1 p4
  have HB1 := Hid.mk hb1
  clear hb1 KG
  have HB2 := Hid.mk (HBW.out.trans (HB1.out.mono HBW.out.size))
  cases hg : glB (x0, x1, x2, x3, x4) with
  | false =>
    have HR : Hid (KeysRet (.returned (.tuple #[.slice none 0 0, .bool false])) w1 w.heap.size (glB (x0, x1, x2, x3, x4)) (wfL (x0, x1, x2, x3, x4))) := Hid.mk (by
      rw [hg, show wfL (x0, x1, x2, x3, x4) = [] by unfold wfL; rw [hg]; rfl]
      exact ⟨none, 0, 0, rfl, ⟨none, 0, 0, [], fun _ _ => False, rfl, Laid.none _ _ _ _⟩⟩)
    clear hg
    go_wp2
    refine bodyPost_ret (v := .tuple #[.slice none 0 0, .bool false]) (by simp [results, Tryd.results12, go_sem]) rfl ⟨HR.out, HB2.out⟩
  | true =>
    have KC := Hid.mk (l14WaitsFor_any a0 a1 a2 a3 a4 n0 c0 n1 c1 n2 c2 n3 c3 n4 c4 x0 x1 x2 x3 x4 w1 HZ0.out (At.below HA0.out HB1.out) HZ1.out (At.below HA1.out HB1.out) HZ2.out (At.below HA2.out HB1.out) HZ3.out (At.below HA3.out HB1.out) HZ4.out (At.below HA4.out HB1.out) hg)
    have HL : Hid (wfL (x0, x1, x2, x3, x4) = (wfO x0 x1 n1).map bl) := Hid.mk (by unfold wfL; rw [hg]; simp only; rw [HZ1.out]; rfl)
    have HSX : Hid (Six (wfO x0 x1 n1)) := Hid.mk (wfO_six (fun y hy => (gp_txn (gl_held hg).1 y hy).2) x1 n1)
    have HG := Hid.mk hg
    clear hg
    go_wp2_with fail
    refine KC.out.mono ?_
    rintro e w2 ⟨⟨G, rfl, hwG, hi⟩, hb2⟩
    have HB3 := Hid.mk (HB2.out.trans (hb2.mono HB2.out.size))
    have HR : Hid (KeysRet (.returned (.tuple #[.slice (some ⟨G, 0, none⟩) 6 6, .bool true])) w2 w.heap.size (glB (x0, x1, x2, x3, x4)) (wfL (x0, x1, x2, x3, x4))) := Hid.mk (by
      rw [HG.out, HL.out]
      exact ⟨_, 6, 6, rfl, hi.own (Nat.lt_succ_self _) (Nat.le_trans HB2.out.size hwG) HSX.out.1 (by omega)⟩)
    clear KC hi hb2 HB2
    go_wp2
    refine bodyPost_ret (v := .tuple #[.slice (some ⟨G, 0, none⟩) 6 6, .bool true]) (by simp [results, Tryd.results12, go_sem]) rfl ⟨HR.out, HB3.out⟩

end Go.Proofs.YtjjebodlekepaaaDoor

/- Lists of numbers within the laws' bounds. -/
namespace Go.Proofs.YtjjebodlekepaaaDoor
open Go.RowKit

/-- Lists within the laws' bounds. -/
def SmK (ta : List (List Int)) (n : Nat) : Prop := ta.length = n ∧ n ≤ 64 ∧ (∀ i, i < ta.length → (ta.getD i []).length ≤ 1048576) ∧ tot ta n ≤ 1048576
theorem tot_le {zss : List (List Int)} (h : ∀ x ∈ zss, x.length ≤ 6) : ∀ k, k ≤ zss.length → tot zss k ≤ 6 * k
  | 0, _ => by rw [tot_zero]; omega
  | k + 1, hk => by
    have h1 := tot_le h k (by omega)
    have h2 := tot_succ zss k (by omega)
    have h3 := h (zss.getD k []) (by simp [List.getD, show k < zss.length by omega])
    omega
theorem smK_of {zss : List (List Int)} (h1 : zss.length ≤ 64) (h2 : ∀ x ∈ zss, x.length ≤ 6) : SmK zss zss.length := by
  refine ⟨rfl, h1, fun i hi => ?_, ?_⟩
  · have := h2 (zss.getD i []) (by simp [List.getD, hi])
    omega
  · have := tot_le h2 _ (Nat.le_refl _)
    omega

end Go.Proofs.YtjjebodlekepaaaDoor

/- What WaitsFor tells is small. -/
namespace Go.Proofs.YtjjebodlekepaaaDoor
open Go.RowKit

/-- What WaitsFor reads of the package variables: a table, and the handle of the type error. -/
def TabE (w : World) : Prop := TabB w ∧ w.cell? ⟨0, 0, none⟩ = some (.iface 115 (.agg #[tE]))
theorem TabE.below {w w' : World} (h : TabE w) (hb : Below w.heap.size w w') : TabE w' := ⟨TabIs.below h.1 hb, cell_later hb h.2⟩
theorem wf_small (k : TLk) : SmK (wfL k) (wfL k).length := by
  obtain ⟨x0, x1, x2, x3, x4⟩ := k
  refine smK_of ?_ ?_
  · unfold wfL
    split
    · rename_i h
      have := (wfO_six (H := x0) (fun y hy => (gp_txn (gl_held h).1 y hy).2) x1 x1.length).1
      rw [List.length_map]; show (wfO x0 x1 x1.length).length ≤ _; omega
    · simp
  · intro x hx
    unfold wfL at hx
    split at hx
    · obtain ⟨c, _, rfl⟩ := List.mem_map.1 hx
      exact bl_len c
    · simp at hx

end Go.Proofs.YtjjebodlekepaaaDoor

/- Contract of the laws' szLocks. -/
namespace Go.Proofs.YtjjebodlekepaaaDoor
open Go.RowKit

theorem szInts_u (a : Option Addr) (n c : Nat) (l : Int) (w : World) (hn : n ≤ 9223372036854775807) (h0 : 0 ≤ l) (h1 : l ≤ 1048576) :
    Calls Tryd.prog 26 #[.slice a n c, .int .i64 l] w fun e w' => e = .returned (.int .i64 (leftOf l n)) ∧ Below w.heap.size w w' :=
  (szIntS_any a n c l w hn h0 h1).mono fun _ _ ⟨h1, h2⟩ => ⟨h1, by rw [h2]; exact Below.refl _ _⟩
set_option maxRecDepth 100000 in
set_option maxHeartbeats 4000000 in
theorem szLocks_any (a0 : Option Addr) (a1 : Option Addr) (a2 : Option Addr) (a3 : Option Addr) (a4 : Option Addr) (n0 n1 n2 n3 n4 : Nat) (c0 c1 c2 c3 c4 : Nat) (l : Int) (w : World) (hn0 : n0 ≤ 9223372036854775807) (hn1 : n1 ≤ 9223372036854775807) (hn2 : n2 ≤ 9223372036854775807) (hn3 : n3 ≤ 9223372036854775807) (hn4 : n4 ≤ 9223372036854775807) (h0 : 0 ≤ l) (h1 : l ≤ 1048576) :
    Calls Tryd.prog 7 #[.agg #[.slice a0 n0 c0, .slice a1 n1 c1, .slice a2 n2 c2, .slice a3 n3 c3, .slice a4 n4 c4], .int .i64 l] w fun e w' => e = .returned (.int .i64 (leftOf l (n0 + n1 + n2 + n3 + n4 : Nat))) ∧ Below w.heap.size w w' := by
  obtain ⟨W, hW⟩ : ∃ W, W = w.alloc (.cells #[.slice a0 n0 c0, .slice a1 n1 c1, .slice a2 n2 c2, .slice a3 n3 c3, .slice a4 n4 c4] 25) := ⟨_, rfl⟩
  have B0 : Below w.heap.size w W := by rw [hW]; exact (Below.refl _ _).alloc (Nat.le_refl _) _
  have p1 : W.cell? ⟨w.heap.size, 1, none⟩ = some (.slice a1 n1 c1) := by rw [hW]; simp
  have p2 : W.cell? ⟨w.heap.size, 2, none⟩ = some (.slice a2 n2 c2) := by rw [hW]; simp
  have p3 : W.cell? ⟨w.heap.size, 3, none⟩ = some (.slice a3 n3 c3) := by rw [hW]; simp
  have p4 : W.cell? ⟨w.heap.size, 4, none⟩ = some (.slice a4 n4 c4) := by rw [hW]; simp
  go_enter Tryd.func7, Tryd.ntmps7
  go_wp2_with fail
  rw [← hW]
  clear hW
  refine (szStepS_any a0 n0 c0 (l) W hn0 (by omega) (by omega)).mono ?_
  rintro e w0 ⟨rfl, hb0⟩
  rw [show ((costStep n0 : Nat) : Int) = (n0 : Int) from rfl]
  have B1 := B0.trans (hb0.mono B0.size)
  have p1 := cell_later hb0 p1
  have p2 := cell_later hb0 p2
  have p3 := cell_later hb0 p3
  have p4 := cell_later hb0 p4
  by_cases k0 : l < (n0 : Int)
  · rw [leftOf_no k0]
    go_wp2
    go_ret
    exact ⟨ret_int (leftOf_no (by omega)).symm, B1⟩
  rw [leftOf_yes k0]
  have y0 : ¬ l - (n0 : Int) < 0 := by omega
  go_wp2_with fail
  refine (szStepS_any a1 n1 c1 (l - (n0 : Int)) w0 hn1 (by omega) (by omega)).mono ?_
  rintro e w1 ⟨rfl, hb1⟩
  rw [show ((costStep n1 : Nat) : Int) = (n1 : Int) from rfl]
  have B2 := B1.trans (hb1.mono B1.size)
  have p2 := cell_later hb1 p2
  have p3 := cell_later hb1 p3
  have p4 := cell_later hb1 p4
  by_cases k1 : l - (n0 : Int) < (n1 : Int)
  · rw [leftOf_no k1]
    go_wp2
    go_ret
    exact ⟨ret_int (leftOf_no (by omega)).symm, B2⟩
  rw [leftOf_yes k1]
  have y1 : ¬ l - (n0 : Int) - (n1 : Int) < 0 := by omega
  go_wp2_with fail
  refine (szStepS_any a2 n2 c2 (l - (n0 : Int) - (n1 : Int)) w1 hn2 (by omega) (by omega)).mono ?_
  rintro e w2 ⟨rfl, hb2⟩
  rw [show ((costStep n2 : Nat) : Int) = (n2 : Int) from rfl]
  have B3 := B2.trans (hb2.mono B2.size)
  have p3 := cell_later hb2 p3
  have p4 := cell_later hb2 p4
  by_cases k2 : l - (n0 : Int) - (n1 : Int) < (n2 : Int)
  · rw [leftOf_no k2]
    go_wp2
    go_ret
    exact ⟨ret_int (leftOf_no (by omega)).symm, B3⟩
  rw [leftOf_yes k2]
  have y2 : ¬ l - (n0 : Int) - (n1 : Int) - (n2 : Int) < 0 := by omega
  go_wp2_with fail
  refine (szInts_u a3 n3 c3 (l - (n0 : Int) - (n1 : Int) - (n2 : Int)) w2 hn3 (by omega) (by omega)).mono ?_
  rintro e w3 ⟨rfl, hb3⟩
  have B4 := B3.trans (hb3.mono B3.size)
  have p4 := cell_later hb3 p4
  by_cases k3 : l - (n0 : Int) - (n1 : Int) - (n2 : Int) < (n3 : Int)
  · rw [leftOf_no k3]
    go_wp2
    go_ret
    exact ⟨ret_int (leftOf_no (by omega)).symm, B4⟩
  rw [leftOf_yes k3]
  have y3 : ¬ l - (n0 : Int) - (n1 : Int) - (n2 : Int) - (n3 : Int) < 0 := by omega
  go_wp2_with fail
  refine (szInts_u a4 n4 c4 (l - (n0 : Int) - (n1 : Int) - (n2 : Int) - (n3 : Int)) w3 hn4 (by omega) (by omega)).mono ?_
  rintro e w4 ⟨rfl, hb4⟩
  have B5 := B4.trans (hb4.mono B4.size)
  by_cases k4 : l - (n0 : Int) - (n1 : Int) - (n2 : Int) - (n3 : Int) < (n4 : Int)
  · rw [leftOf_no k4]
    go_wp2
    go_ret
    exact ⟨ret_int (leftOf_no (by omega)).symm, B5⟩
  rw [leftOf_yes k4]
  have y4 : ¬ l - (n0 : Int) - (n1 : Int) - (n2 : Int) - (n3 : Int) - (n4 : Int) < 0 := by omega
  go_wp2
  go_ret
  exact ⟨ret_int (by rw [leftOf_yes (by omega)]; omega), B5⟩

end Go.Proofs.YtjjebodlekepaaaDoor
