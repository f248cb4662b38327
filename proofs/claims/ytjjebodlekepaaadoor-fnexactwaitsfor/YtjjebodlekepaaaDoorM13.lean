/- Several texts of one proof, in build order: WfI, InsP, CloM. -/
import Derived.Test.YtjjebodlekepaaaDoorM12
import Derived.Test.YtjjebodlekepaaaDoorM11
import Derived.Deep.CutBlock
import Derived.Test.YtjjebodlekepaaaDoorM6

/- Contracts of impl.waitedFor and impl.WaitsFor. -/
namespace Go.Proofs.YtjjebodlekepaaaDoor
open Go.RowKit

theorem Tryd.infoNSw : (Tryd.prog.info? 59).map (fun i => (i.zero, i.size, i.bytes)) = some (some (.int .u64 0), 1, 8) := by kernel_rfl
theorem own_sixw {w : World} {g : Nat} {cs : List Nat} (hl : cs.length = 6) (h : w.heap[g]? = some (.cells (cs.map encK).toArray 59 (0, 0))) : w.ownsRow g 59 1 (.slice (some ⟨g, 0, none⟩) 6 6) 6 (cs.map encK) :=
  ⟨by simp [hl], .inr ⟨g, 6, _, rfl, Nat.le_refl _, h, Nat.le_refl _, by decide, by simp [hl], by rw [List.take_of_length_le (by simp [hl])]⟩⟩

set_option maxRecDepth 100000 in
set_option maxHeartbeats 4000000 in
theorem waitedFor_any (a0 : Option Addr) (a1 : Option Addr) (a2 : Option Addr) (a3 : Option Addr) (a4 : Option Addr) (n0 c0 n1 c1 n2 c2 n3 c3 n4 c4 : Nat) (x0 x1 x2 : List TStep) (x3 x4 : List Int) (w : World) (hz0 : x0.length = n0) (ha0 : At w a0 (flStep x0)) (hz1 : x1.length = n1) (ha1 : At w a1 (flStep x1)) (hz2 : x2.length = n2) (ha2 : At w a2 (flStep x2)) (hz3 : x3.length = n3) (ha3 : At w a3 x3) (hz4 : x4.length = n4) (ha4 : At w a4 x4) (hg : glB (x0, x1, x2, x3, x4) = true) (hge : w.cell? ⟨0, 0, none⟩ = some (.iface 115 (.agg #[tE]))) :
    Calls Tryd.prog 43 #[.agg #[.slice a0 n0 c0, .slice a1 n1 c1, .slice a2 n2 c2, .slice a3 n3 c3, .slice a4 n4 c4]] w fun e w' => (∃ G, e = .returned (.slice (some ⟨G, 0, none⟩) 6 6) ∧ w.heap.size ≤ G ∧ w'.heap[G]? = some (.cells ((wfO x0 x1 n1).map encK).toArray 59 (0, 0))) ∧ Below w.heap.size w w' := by
  obtain ⟨W, hW⟩ : ∃ W, W = w.alloc (.cells #[.slice a0 n0 c0, .slice a1 n1 c1, .slice a2 n2 c2, .slice a3 n3 c3, .slice a4 n4 c4] 30) := ⟨_, rfl⟩
  have B0 : Below w.heap.size w W := by rw [hW]; exact (Below.refl _ _).alloc (Nat.le_refl _) _
  have p0 : W.cell? ⟨w.heap.size, 0, none⟩ = some (.slice a0 n0 c0) := by rw [hW]; simp
  have p1 : W.cell? ⟨w.heap.size, 1, none⟩ = some (.slice a1 n1 c1) := by rw [hW]; simp
  have p2 : W.cell? ⟨w.heap.size, 2, none⟩ = some (.slice a2 n2 c2) := by rw [hW]; simp
  have p3 : W.cell? ⟨w.heap.size, 3, none⟩ = some (.slice a3 n3 c3) := by rw [hW]; simp
  have p4 : W.cell? ⟨w.heap.size, 4, none⟩ = some (.slice a4 n4 c4) := by rw [hW]; simp
  have HP0 := Hid.mk p0
  have HP1 := Hid.mk p1
  have HP2 := Hid.mk p2
  have HP3 := Hid.mk p3
  have HP4 := Hid.mk p4
  have HBW := Hid.mk B0
  have HA0 := Hid.mk (At.below ha0 HBW.out)
  have HZ0 := Hid.mk hz0
  clear ha0 hz0
  have HA1 := Hid.mk (At.below ha1 HBW.out)
  have HZ1 := Hid.mk hz1
  clear ha1 hz1
  have HA2 := Hid.mk (At.below ha2 HBW.out)
  have HZ2 := Hid.mk hz2
  clear ha2 hz2
  have HA3 := Hid.mk (At.below ha3 HBW.out)
  have HZ3 := Hid.mk hz3
  clear ha3 hz3
  have HA4 := Hid.mk (At.below ha4 HBW.out)
  have HZ4 := Hid.mk hz4
  clear ha4 hz4
  have HG0 := Hid.mk (gl_held hg).1
  have HG1 := Hid.mk (gl_waits hg)
  have HND := Hid.mk (gl_nodup hg)
  have hn0 : n0 ≤ 40 := by have := gp_len HG0.out; have := HZ0.out; omega
  have hn1 : n1 ≤ 40 := by have := gp_len HG1.out; have := HZ1.out; omega
  obtain ⟨j0, hj0, hy0, hy1, hy2⟩ := info_parts Tryd.infoNSw
  obtain ⟨G, hG⟩ : ∃ G, W.heap.size = G := ⟨_, rfl⟩
  have HGE := Hid.mk hge
  clear B0 hg
  go_enter Tryd.func43, Tryd.ntmps43
  go_upto_region 1 with fail
  rw [← hW]
  clear hW
  go_wp2_with (at_make; refine wpList_make_full _ rfl _ _ 67 rfl W.heap.size 59 j0 (.int .u64 0) 1 Tryd.underlying67 hj0 hy0 hy1 .i64 .i64 _ _ 6 rfl rfl rfl rfl (by rw [hy2]; omega) (by unfold maxLen; omega) (Nat.le_refl _) ?_; intro w1 hown hgr; have hb1 : Below W.heap.size W w1 := (Below.refl _ _).grown hgr (Nat.le_refl _) (by simp); have p0 := cell_later hb1 HP0.out; have p1 := cell_later hb1 HP1.out)
  (try rw [hG] at hown)
  have hi1 : w1.heap[G]? = some (.cells ((wfO x0 x1 0).map encK).toArray 59 (0, 0)) := by
    have e6 : (madeCells (Value.int .u64 0).cells (6 * 1)).toList = (wfO x0 x1 0).map encK := by simp [madeCells, Value.cells, List.range, List.range.loop, wfO, List.replicate, encK]
    rw [e6] at hown
    exact own_rowC hown
  have hG1 : G + 1 ≤ w1.heap.size := by
    rcases hown.2 with ⟨h, _⟩ | ⟨g', cap, cur, hv, _, hh, _⟩
    · cases h
    · simp only [Value.slice.injEq, Option.some.injEq, Addr.mk.injEq, true_and, and_true] at hv
      obtain ⟨rfl, _⟩ := hv
      exact (Array.getElem?_eq_some_iff.1 hh).1
  (try rw [hG])
  have HI1 := Hid.mk hi1
  have HB1 := Hid.mk hb1
  clear hi1 hb1 hown hgr
  go_wp2
  go_loopw [11] (fun i wr => ∃ (k : Nat), k ≤ n1 ∧ i = .int .i64 k ∧ (wr.heap[G]? = some (.cells ((wfO x0 x1 k).map encK).toArray 59 (0, 0))) ∧ G + 1 ≤ wr.heap.size ∧ Below W.heap.size W wr) (fun i _ => n1 - (intOf i).toNat)
  case atStart => exact ⟨0, Nat.zero_le _, rfl, HI1.out, hG1, HB1.out⟩
  case round =>
    clear HI1 HB1 p0 p1
    obtain ⟨k, hk, rfl, hi, hGw, hbw⟩ := hrel
    obtain ⟨wY, rfl⟩ : ∃ x, x = wr := ⟨_, rfl⟩
    by_cases hlt : k < n1
    · obtain ⟨⟨y0, y1, y2⟩, hx⟩ : ∃ x, x1[k]? = some x := ⟨_, List.getElem?_eq_getElem (by have := HZ1.out; omega)⟩
      obtain ⟨b, off, rfl, hb, hc⟩ := flStep_some HA1.out (by have := HZ1.out; omega)
      obtain ⟨e0, e1, e2⟩ := hc k _ hx
      have e0 := cell_later hbw e0
      have e1 := cell_later hbw e1
      have e2 := cell_later hbw e2
      have hgx := gp_at HG1.out hx
      simp only at e0 e1 e2 hgx
      obtain ⟨t, rfl⟩ : ∃ t : Nat, y0 = (t : Int) := ⟨y0.toNat, by omega⟩
      have ht6 : t < 6 := by omega
      have ht6i : (t : Int) < 6 := by omega
      have hy12 : y1 = 1 ∨ y1 = 2 := by omega
      have hki : (k : Int) < (n1 : Int) := by omega
      have p0 := cell_later hbw HP0.out
      have p1 := cell_later hbw HP1.out
      obtain ⟨V, hV⟩ : ∃ V, V = (wY.alloc (.cells #[.int .i64 (t : Int), .int .i64 y1, .int .i64 y2] 51)).alloc (.cells #[.int .u64 0] 87) := ⟨_, rfl⟩
      have hbV : Below wY.heap.size wY V := by rw [hV]; exact ((Below.refl _ _).alloc (Nat.le_refl _) _).alloc (by simp) _
      have v0 : V.cell? ⟨wY.heap.size, 0, none⟩ = some (.int .i64 (t : Int)) := by rw [hV]; simp
      have v1 : V.cell? ⟨wY.heap.size, 1, none⟩ = some (.int .i64 y1) := by rw [hV]; simp
      have v2 : V.cell? ⟨wY.heap.size, 2, none⟩ = some (.int .i64 y2) := by rw [hV]; simp
      have hH : V.heap[wY.heap.size + 1]? = some (.cells #[.int .u64 0] 87 (0, 0)) := by
        rw [hV]; have q := heap_alloc_new (wY.alloc (.cells #[.int .i64 (t : Int), .int .i64 y1, .int .i64 y2] 51)) (.cells #[.int .u64 0] 87); simpa only [World.size_alloc] using q
      have p0 := cell_later hbV p0
      have HIV : Hid (V.heap[G]? = some (.cells ((wfO x0 x1 k).map encK).toArray 59 (0, 0))) := Hid.mk (blk_below hi hbV)
      have HBV := Hid.mk (hbw.trans (hbV.mono hbw.size))
      have hYG : wY.heap.size ≠ G := by omega
      have hYG1 : wY.heap.size + 1 ≠ G := by omega
      have KM := Hid.mk (mayGo_any a0 n0 c0 x0 (t : Int) y1 y2 V HZ0.out (by omega) (fun y hy => gp_ok HG0.out hy) hy12 (At.below HA0.out HBV.out))
      have hfr := wfO_fresh (H := x0) HND.out (fun y hy => (gp_txn HG1.out y hy).1) hx
      have hsix := wfO_six (H := x0) (fun y hy => (gp_txn HG0.out y hy).2) x1 k
      have hsu := wfO_succ (H := x0) hx
      simp only [Int.toNat_natCast] at hfr hsu
      obtain ⟨CS, hCS⟩ : ∃ CS, wfO x0 x1 k = CS := ⟨_, rfl⟩
      rw [hCS] at HIV hfr hsix hsu
      obtain ⟨S, hS⟩ : ∃ S, byF x0 ((t : Int), y1, y2) = S := ⟨_, rfl⟩
      rw [hS] at KM hsu
      have HSU := Hid.mk hsu
      clear hc hx hi hbw hbV hgx hsu hCS hS
      go_upto_region 6 with fail
      rw [← hV]
      clear hV e0 e1 e2
      by_cases h0 : S = 0
      · have HN : Hid (wfO x0 x1 (k + 1) = CS) := Hid.mk (by rw [HSU.out, h0]; exact set_same hfr)
        rw [show mgV S = .nilIface from if_pos h0] at KM
        clear h0
        go_wp2_with fail
        refine KM.out.mono ?_
        rintro e w3 ⟨rfl, hb3⟩
        have HI3 : Hid (w3.heap[G]? = some (.cells ((wfO x0 x1 (k + 1)).map encK).toArray 59 (0, 0))) := Hid.mk (by rw [HN.out]; exact blk_below HIV.out hb3)
        have HB3 := Hid.mk (HBV.out.trans (hb3.mono HBV.out.size))
        have hG3 : G + 1 ≤ w3.heap.size := by have := hb3.size; have := HBV.out.size; have := (Array.getElem?_eq_some_iff.1 HIV.out).1; omega
        have KA := Hid.mk (as_nil (.iface 89 (.pointer (some ⟨wY.heap.size + 1, 0, none⟩))) w3)
        clear hb3 KM HIV HBV
        go_wp2_with fail
        refine KA.out.mono ?_
        rintro e w4 ⟨rfl, hw4⟩
        obtain rfl := hw4.symm
        clear hw4 KA
        go_wp2
        go_roundw
        case rel => exact ⟨k + 1, by omega, by go_num, HI3.out, hG3, HB3.out⟩
        case measure => simp [intOf]; omega
      · rw [show mgV S = .iface 87 (.agg #[.int .u64 (S : Nat)]) from if_neg h0] at KM
        clear h0 hfr
        go_wp2_with fail
        refine KM.out.mono ?_
        rintro e w3 ⟨rfl, hb3⟩
        have hI3 := blk_below HIV.out hb3
        have hH3 := blk_below hH hb3
        have v0 := cell_later hb3 v0
        have HB3 := Hid.mk (HBV.out.trans (hb3.mono HBV.out.size))
        have KA := Hid.mk (as_told (S : Nat) (wY.heap.size + 1) w3 (cell_later (HBW.out.trans (HB3.out.mono HBW.out.size)) HGE.out) hH3)
        have HI3 := Hid.mk hI3
        clear hb3 KM HIV HBV hI3 hH hH3 v1 v2
        go_wp2_with fail
        refine KA.out.mono ?_
        rintro e w4 ⟨rfl, cB, hof⟩
        have v0 := hof.cell v0 (show ¬ wY.heap.size = wY.heap.size + 1 by omega)
        have hI4 := (hof.block G (Array.getElem?_eq_some_iff.1 HI3.out).1 (fun e => hYG1 e.symm)).trans HI3.out
        have HB4 : Hid (Below W.heap.size W w4) := Hid.mk (HB3.out.trans ⟨hof.os, hof.tape, hof.output, hof.size, fun i hi => hof.block i (by have := HB3.out.size; omega) (fun e => by have := hGw; omega)⟩)
        obtain ⟨C, hC⟩ : ∃ C, CS.getD t 0 = C := ⟨_, rfl⟩
        have h9 : CS[t]? = some C := by rw [← hC, List.getD_eq_getElem?_getD, List.getElem?_eq_getElem (by rw [hsix.1]; omega)]; rfl
        have cG : w4.cell? ⟨G, t, none⟩ = some (.int .u64 (C : Nat)) := blk_cell hI4 t (by simp [h9, encK])
        clear hC h9
        have fG : w4.frozen? ⟨G, t, none⟩ = false := blk_frozen hI4 t
        have HIX : Hid ((w4.setCell ⟨G, t, none⟩ (.int .u64 (S : Nat))).heap[G]? = some (.cells ((wfO x0 x1 (k + 1)).map encK).toArray 59 (0, 0))) := Hid.mk (by
          rw [blk_set hI4 t _, HSU.out, List.map_set]; simp [encK])
        have HBX : Hid (Below W.heap.size W (w4.setCell ⟨G, t, none⟩ (.int .u64 (S : Nat)))) := Hid.mk (HB4.out.setCell (p := ⟨G, t, none⟩) (by show W.heap.size ≤ G; omega) _)
        have hGX : G + 1 ≤ (w4.setCell ⟨G, t, none⟩ (.int .u64 (S : Nat))).heap.size := (Array.getElem?_eq_some_iff.1 HIX.out).1
        clear KA hof hI4 HI3 HB3 HB4
        go_wp2
        go_roundw
        case rel => exact ⟨k + 1, by omega, by go_num, HIX.out, hGX, HBX.out⟩
        case measure => simp [intOf]; omega
    · obtain rfl : n1 = k := by omega
      have hki : ¬ (n1 : Int) < (n1 : Int) := by omega
      have HI2 := Hid.mk hi
      have HB2 := Hid.mk (HBW.out.trans (hbw.mono HBW.out.size))
      have hGW : w.heap.size ≤ G := by have := HBW.out.size; omega
      clear hi hbw
      go_wp2
      go_ret
      exact ⟨⟨G, rfl, hGW, HI2.out⟩, HB2.out⟩

set_option maxRecDepth 100000 in
set_option maxHeartbeats 2000000 in
theorem implWaitsFor (a0 : Option Addr) (a1 : Option Addr) (a2 : Option Addr) (a3 : Option Addr) (a4 : Option Addr) (n0 c0 n1 c1 n2 c2 n3 c3 n4 c4 : Nat) (x0 x1 x2 : List TStep) (x3 x4 : List Int) (w : World) (hz0 : x0.length = n0) (hs0 : n0 ≤ 1048576) (hc0 : n0 ≤ c0) (hF0 : a0 = none → c0 = 0) (ha0 : At w a0 (flStep x0)) (hz1 : x1.length = n1) (hs1 : n1 ≤ 1048576) (hc1 : n1 ≤ c1) (hF1 : a1 = none → c1 = 0) (ha1 : At w a1 (flStep x1)) (hz2 : x2.length = n2) (hs2 : n2 ≤ 1048576) (hc2 : n2 ≤ c2) (hF2 : a2 = none → c2 = 0) (ha2 : At w a2 (flStep x2)) (hz3 : x3.length = n3) (hs3 : n3 ≤ 1048576) (hc3 : n3 ≤ c3) (hF3 : a3 = none → c3 = 0) (ha3 : At w a3 x3) (hz4 : x4.length = n4) (hs4 : n4 ≤ 1048576) (hc4 : n4 ≤ c4) (hF4 : a4 = none → c4 = 0) (ha4 : At w a4 x4) (ht : TabB w) (hge : w.cell? ⟨0, 0, none⟩ = some (.iface 115 (.agg #[tE]))) :
    Calls Tryd.prog 13 #[.agg #[.slice a0 n0 c0, .slice a1 n1 c1, .slice a2 n2 c2, .slice a3 n3 c3, .slice a4 n4 c4]] w fun e w' => KeysRet e w' w.heap.size (glB (x0, x1, x2, x3, x4)) (wfL (x0, x1, x2, x3, x4)) ∧ Below w.heap.size w w' := by
  have HTT := Hid.mk ht
  have HGE := Hid.mk hge
  obtain ⟨W, hW⟩ : ∃ W, W = w.alloc (.cells #[.slice a0 n0 c0, .slice a1 n1 c1, .slice a2 n2 c2, .slice a3 n3 c3, .slice a4 n4 c4] 30) := ⟨_, rfl⟩
  have B0 : Below w.heap.size w W := by rw [hW]; exact (Below.refl _ _).alloc (Nat.le_refl _) _
  have p0 : W.cell? ⟨w.heap.size, 0, none⟩ = some (.slice a0 n0 c0) := by rw [hW]; simp
  have p1 : W.cell? ⟨w.heap.size, 1, none⟩ = some (.slice a1 n1 c1) := by rw [hW]; simp
  have p2 : W.cell? ⟨w.heap.size, 2, none⟩ = some (.slice a2 n2 c2) := by rw [hW]; simp
  have p3 : W.cell? ⟨w.heap.size, 3, none⟩ = some (.slice a3 n3 c3) := by rw [hW]; simp
  have p4 : W.cell? ⟨w.heap.size, 4, none⟩ = some (.slice a4 n4 c4) := by rw [hW]; simp
  have HP0 := Hid.mk p0
  have HP1 := Hid.mk p1
  have HP2 := Hid.mk p2
  have HP3 := Hid.mk p3
  have HP4 := Hid.mk p4
  have KG := Hid.mk (implGoodLocks a0 a1 a2 a3 a4 n0 c0 n1 c1 n2 c2 n3 c3 n4 c4 x0 x1 x2 x3 x4 W hz0 hs0 hc0 hF0 (At.below ha0 B0) hz1 hs1 hc1 hF1 (At.below ha1 B0) hz2 hs2 hc2 hF2 (At.below ha2 B0) hz3 hs3 hc3 hF3 (At.below ha3 B0) hz4 hs4 hc4 hF4 (At.below ha4 B0) (TabIs.below ht B0))
  have HBW := Hid.mk B0
  have HA0 := Hid.mk (At.below ha0 HBW.out)
  have HZ0 := Hid.mk hz0
  clear ha0 hz0
  have HA1 := Hid.mk (At.below ha1 HBW.out)
  have HZ1 := Hid.mk hz1
  clear ha1 hz1
  have HA2 := Hid.mk (At.below ha2 HBW.out)
  have HZ2 := Hid.mk hz2
  clear ha2 hz2
  have HA3 := Hid.mk (At.below ha3 HBW.out)
  have HZ3 := Hid.mk hz3
  clear ha3 hz3
  have HA4 := Hid.mk (At.below ha4 HBW.out)
  have HZ4 := Hid.mk hz4
  clear ha4 hz4
  clear B0
  go_enter Tryd.func13, Tryd.ntmps13
  go_wp2_with fail
  rw [← hW]
  clear hW
  refine KG.out.mono ?_
  rintro e w1 ⟨rfl, hb1⟩
  have p0 := cell_later hb1 p0
  have p1 := cell_later hb1 p1
  have p2 := cell_later hb1 p2
  have p3 := cell_later hb1 p3
  have p4 := cell_later hb1 p4
  have HB1 := Hid.mk hb1
  clear hb1 KG
  have HB2 := Hid.mk (HBW.out.trans (HB1.out.mono HBW.out.size))
  cases hg : glB (x0, x1, x2, x3, x4) with
  | false =>
    have HR : Hid (KeysRet (.returned (.tuple #[.slice none 0 0, .bool false])) w1 w.heap.size (glB (x0, x1, x2, x3, x4)) (wfL (x0, x1, x2, x3, x4))) := Hid.mk (by
      rw [hg, show wfL (x0, x1, x2, x3, x4) = [] by unfold wfL; rw [hg]; rfl]
      exact ⟨none, 0, 0, rfl, ⟨none, 0, 0, [], fun _ _ => False, rfl, Laid.none _ _ _ _⟩⟩)
    clear hg
    go_wp2
    refine bodyPost_ret (v := .tuple #[.slice none 0 0, .bool false]) (by simp [results, Tryd.results13, go_sem]) rfl ⟨HR.out, HB2.out⟩
  | true =>
    have KC := Hid.mk (waitedFor_any a0 a1 a2 a3 a4 n0 c0 n1 c1 n2 c2 n3 c3 n4 c4 x0 x1 x2 x3 x4 w1 HZ0.out (At.below HA0.out HB1.out) HZ1.out (At.below HA1.out HB1.out) HZ2.out (At.below HA2.out HB1.out) HZ3.out (At.below HA3.out HB1.out) HZ4.out (At.below HA4.out HB1.out) hg (cell_later HB2.out HGE.out))
    have HL : Hid (wfL (x0, x1, x2, x3, x4) = (wfO x0 x1 n1).map bl) := Hid.mk (by unfold wfL; rw [hg]; simp only; rw [HZ1.out]; rfl)
    have HSX : Hid (Six (wfO x0 x1 n1)) := Hid.mk (wfO_six (fun y hy => (gp_txn (gl_held hg).1 y hy).2) x1 n1)
    have HG := Hid.mk hg
    clear hg
    go_wp2_with fail
    refine KC.out.mono ?_
    rintro e w2 ⟨⟨G, rfl, hwG, hi⟩, hb2⟩
    have KL := Hid.mk (listsK_any G (some ⟨G, 0, none⟩) 6 6 (wfO x0 x1 n1) w2 HSX.out.1 (by omega) HSX.out.2 (own_sixw HSX.out.1 hi) (TabIs.below HTT.out (HB2.out.trans (hb2.mono HB2.out.size))))
    have HB3 := Hid.mk (HB2.out.trans (hb2.mono HB2.out.size))
    have hw1 : w.heap.size ≤ w2.heap.size := HB3.out.size
    clear KC hi hb2 HB2
    go_wp2_with fail
    refine KL.out.mono ?_
    rintro e w3 ⟨r, m, d, rfl, ho3, hb3⟩
    have HR : Hid (KeysRet (.returned (.tuple #[.slice r m d, .bool true])) w3 w.heap.size (glB (x0, x1, x2, x3, x4)) (wfL (x0, x1, x2, x3, x4))) := Hid.mk (by
      rw [HG.out, HL.out]
      exact ⟨r, m, d, rfl, RPairs.mono ho3 (fun b h => ⟨Nat.le_trans hw1 h.1, h.2⟩)⟩)
    have HB4 := Hid.mk (HB3.out.trans (hb3.mono HB3.out.size))
    clear KL ho3 hb3
    go_wp2
    refine bodyPost_ret (v := .tuple #[.slice r m d, .bool true]) (by simp [results, Tryd.results13, go_sem]) rfl ⟨HR.out, HB4.out⟩

end Go.Proofs.YtjjebodlekepaaaDoor

/- Plain: a number put to its place in a rising list, as sets of columns tell it. -/
namespace Go.Proofs.YtjjebodlekepaaaDoor
open Go.RowKit

/-- A number put to its place, once: ahead of the first that is not less. -/
def lessN (n : Int) : List Int → Nat
  | [] => 0
  | z :: zs => if z < n then lessN n zs + 1 else 0
def insI (l : List Int) (n : Int) : List Int := if n ∈ l then l else l.take (lessN n l) ++ n :: l.drop (lessN n l)
theorem lessN_le (n : Int) : ∀ l, lessN n l ≤ l.length
  | [] => Nat.le_refl _
  | z :: zs => by unfold lessN; split; have := lessN_le n zs; simp; omega; simp
theorem lessN_is (n : Int) : ∀ (l : List Int) (k : Nat), k ≤ l.length → (∀ j, j < k → l.getD j 0 < n) → (k < l.length → ¬ l.getD k 0 < n) → lessN n l = k
  | [], k, h, _, _ => by simp at h; simp [lessN, h]
  | z :: zs, 0, _, _, h => by have := h (by simp); simp at this; unfold lessN; rw [if_neg (by omega)]
  | z :: zs, k + 1, h1, h2, h3 => by
    have h0 := h2 0 (by omega)
    simp at h0
    unfold lessN
    rw [if_pos h0, lessN_is n zs k (by simpa using h1) (fun j hj => by simpa using h2 (j + 1) (by omega)) (fun hk => by simpa using h3 (by simpa using hk))]
theorem insI_yes {l : List Int} {n : Int} (h : n ∈ l) : insI l n = l := if_pos h
theorem insI_no {l : List Int} {n : Int} (h : ¬ n ∈ l) : insI l n = l.take (lessN n l) ++ n :: l.drop (lessN n l) := if_neg h
theorem insI_bl_all : ∀ s : Nat, s < 64 → ∀ n : Nat, n < 6 → insI (bl s) (n : Int) = bl (s ||| 2 ^ n) := by decide +kernel
theorem insI_bl {s : Nat} {n : Int} (hs : s < 64) (h0 : 0 ≤ n) (h1 : n < 6) : insI (bl s) n = bl (s ||| 2 ^ n.toNat) := by
  have := insI_bl_all s hs n.toNat (by omega)
  rw [Int.toNat_of_nonneg h0] at this
  exact this
theorem len_bl_all : ∀ s : Nat, s < 64 → ∀ t : Nat, t < 64 → sb s t = true → (bl t).length = (bl s).length → t = s := by decide +kernel
theorem all_bl {D T : Nat} (hD : D < 64) : (bl D).all (fun k => decide (k ∈ bl T)) = sb D T := by
  cases h : sb D T with
  | true =>
    rw [List.all_eq_true]
    intro k hk
    obtain ⟨i, h1, h2, rfl⟩ := mem_bl.1 hk
    exact decide_eq_true (mem_bl.2 ⟨i, h1, sb_bit h i h2, rfl⟩)
  | false =>
    rw [← Bool.not_eq_true]
    intro h'
    rw [List.all_eq_true] at h'
    have : sb D T = true := sb_of_bits fun i hi => by
      have hi6 : i < 6 := by
        by_cases h6 : i < 6
        · exact h6
        · rw [Nat.testBit_lt_two_pow (Nat.lt_of_lt_of_le hD (by have : 2 ^ 6 ≤ 2 ^ i := Nat.pow_le_pow_right (by omega) (by omega); omega))] at hi; cases hi
      have h9 := of_decide_eq_true (h' (i : Int) (mem_bl.2 ⟨i, hi6, hi, rfl⟩))
      obtain ⟨j, _, h4, h5⟩ := mem_bl.1 h9
      obtain rfl : i = j := by omega
      exact h4
    rw [h] at this; cases this
/-- Putting all of a list, one by one. -/
theorem mk_or (l : List Int) (s : Nat) : l.foldl (fun s k => s ||| 2 ^ k.toNat) s = s ||| mk l := by
  apply Nat.eq_of_testBit_eq
  have key : ∀ (l : List Int) (s i : Nat), (l.foldl (fun s k => s ||| 2 ^ k.toNat) s).testBit i = (s.testBit i || (l.foldl (fun (s : Nat) (k : Int) => s ||| 2 ^ k.toNat) 0).testBit i) := by
    intro l
    induction l with
    | nil => intro s i; simp
    | cons x l ih => intro s i; rw [List.foldl_cons, List.foldl_cons, ih, ih (0 ||| _), Nat.testBit_or, Nat.testBit_or]; simp [Bool.or_assoc]
  intro i
  rw [key, Nat.testBit_or]
  rfl

end Go.Proofs.YtjjebodlekepaaaDoor

/- Contracts of the model's l1Has, l7All, l7Put. -/
namespace Go.Proofs.YtjjebodlekepaaaDoor
open Go.RowKit

set_option maxHeartbeats 1000000 in
theorem l1Has_any (a : Option Addr) (n c : Nat) (zs : List Int) (x : Int) (w : World) (hz : zs.length = n) (hn : n ≤ 9223372036854775807) (ha : At w a zs) :
    Calls Tryd.prog 30 #[.slice a n c, .int .i64 x] w fun e w' => e = .returned (.bool (decide (x ∈ zs))) ∧ w' = w := by
  by_cases h0 : n = 0
  · subst h0
    obtain rfl := List.eq_nil_of_length_eq_zero hz
    go_enter Tryd.func30, Tryd.ntmps30
    go_wp2
    refine wp_loop_rounds 1 ?_
    rw [rounds_succ]
    go_wp2
    go_ret
    exact ⟨rfl, rfl⟩
  · obtain ⟨b, off, rfl, hb, hc⟩ := ha.some (by omega)
    clear ha
    go_enter Tryd.func30, Tryd.ntmps30
    go_wp2
    go_loopw [9] (fun i wr => ∃ (k : Nat), k ≤ n ∧ i = .int .i64 k ∧ (¬ x ∈ zs.take k) ∧ wr = w) (fun i _ => n - (intOf i).toNat)
    case atStart => exact ⟨0, Nat.zero_le _, rfl, by simp, rfl⟩
    case round =>
      obtain ⟨k, hk, rfl, ht, rfl⟩ := hrel
      by_cases hlt : k < n
      · have hcx : wr.cell? ⟨b, off + k, none⟩ = some (.int .i64 (zs.getD k 0)) := hc k (by omega)
        have hm : zs.getD k 0 ∈ zs := by simp [List.getD, show k < zs.length by omega]
        have hnx : zs.getD k 0 ≠ x → ¬ x ∈ zs.take (k + 1) := fun h => by
          rw [take_succ_getD zs k (by omega)]
          simp only [List.mem_append, List.mem_singleton, not_or]
          exact ⟨ht, fun e => h e.symm⟩
        obtain ⟨y, hy⟩ : ∃ y, y = zs.getD k 0 := ⟨_, rfl⟩
        rw [← hy] at hcx hm hnx
        have HM := Hid.mk hm
        have HN := Hid.mk hnx
        clear hc hm hnx hy ht
        by_cases he : y = x
        · subst he
          go_wp2
          go_ret
          exact ⟨by rw [decide_eq_true HM.out]; rfl, rfl⟩
        · go_wp2
          go_roundw
          case rel => exact ⟨k + 1, by omega, by go_num, HN.out he, trivial⟩
          case measure => simp [intOf]; omega
      · rw [List.take_of_length_le (by omega)] at ht
        have HT := Hid.mk ht
        clear ht
        go_wp2
        go_ret
        exact ⟨by rw [decide_eq_false HT.out]; rfl, rfl⟩

end Go.Proofs.YtjjebodlekepaaaDoor
