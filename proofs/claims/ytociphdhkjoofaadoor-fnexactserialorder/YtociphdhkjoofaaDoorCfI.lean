/- Contracts of impl.clashesIn and impl.ConflictsOf. -/
import Derived.Test.YtociphdhkjoofaaDoorCfP
import Derived.Test.YtociphdhkjoofaaDoorSrI
import Derived.Test.YtociphdhkjoofaaDoorSwC
import Derived.Test.YtociphdhkjoofaaDoorFlD
import Derived.Test.YtociphdhkjoofaaDoorLsK
import Derived.Test.YtociphdhkjoofaaDoorBlk
import Derived.Deep.CutBlock
namespace Go.Proofs.YtociphdhkjoofaaDoor
open Go.RowKit

theorem Tryd.infoNS : (Tryd.prog.info? 57).map (fun i => (i.zero, i.size, i.bytes)) = some (some (.int .u64 0), 1, 8) := by kernel_rfl

set_option maxRecDepth 100000 in
set_option maxHeartbeats 4000000 in
theorem clashesIn_any (a : Option Addr) (n c : Nat) (xs : List TStep) (w : World) (hz : xs.length = n) (hnc : n ≤ c) (hg : gpB xs = true) (ha : At w a (flStep xs)) :
    Calls Tryd.prog 29 #[.slice a n c] w fun e w' => (∃ G, e = .returned (.slice (some ⟨G, 0, none⟩) 6 6) ∧ w.heap.size ≤ G ∧ w'.heap[G]? = some (.cells ((cfL xs).map encK).toArray 57 (0, 0))) ∧ Below w.heap.size w w' := by
  obtain ⟨j0, hj0, hy0, hy1, hy2⟩ := info_parts Tryd.infoNS
  have hn40 : n ≤ 40 := by have := gp_len hg; omega
  have HZ := Hid.mk hz
  have HA := Hid.mk ha
  have HG := Hid.mk hg
  clear hz ha hg
  obtain ⟨G, hG⟩ : ∃ G, w.heap.size = G := ⟨_, rfl⟩
  have hwG : w.heap.size ≤ G := by omega
  go_enter Tryd.func29, Tryd.ntmps29
  go_wp2_with (at_make; refine wpList_make_full _ rfl _ _ 50 rfl w.heap.size 57 j0 (.int .u64 0) 1 Tryd.underlying50 hj0 hy0 hy1 .i64 .i64 _ _ 6 rfl rfl rfl rfl (by rw [hy2]; omega) (by unfold maxLen; omega) (Nat.le_refl _) ?_; intro w1 hown hgr)
  have hb1 : Below w.heap.size w w1 := (Below.refl _ _).grown hgr (Nat.le_refl _) (by simp)
  (try rw [hG] at hown)
  have hi1 : w1.heap[G]? = some (.cells ((cfO xs 0).map encK).toArray 57 (0, 0)) := by
    have e6 : (madeCells (Value.int .u64 0).cells (6 * 1)).toList = (cfO xs 0).map encK := by simp [madeCells, Value.cells, List.range, List.range.loop, cfO, List.replicate, encK]
    rw [e6] at hown
    exact own_rowC hown
  have hG1 : G + 1 ≤ w1.heap.size := by
    rcases hown.2 with ⟨h, _⟩ | ⟨g', cap, cur, hv, _, hh, _⟩
    · cases h
    · simp only [Value.slice.injEq, Option.some.injEq, Addr.mk.injEq, true_and, and_true] at hv
      obtain ⟨rfl, _⟩ := hv
      exact (Array.getElem?_eq_some_iff.1 hh).1
  (try rw [hG])
  have HI1 := Hid.mk hi1
  have HB1 := Hid.mk hb1
  clear hi1 hb1 hown hgr hG
  go_wp2_with fail
  go_loopw [11] (fun i wr => ∃ (k : Nat), k ≤ n ∧ i = .int .i64 k ∧ (wr.heap[G]? = some (.cells ((cfO xs k).map encK).toArray 57 (0, 0))) ∧ G + 1 ≤ wr.heap.size ∧ Below w.heap.size w wr) (fun i _ => n - (intOf i).toNat)
  case atStart => exact ⟨0, Nat.zero_le _, rfl, HI1.out, hG1, HB1.out⟩
  case round =>
    clear HI1 HB1
    obtain ⟨k, hk, rfl, hi, hGw, hbw⟩ := hrel
    obtain ⟨wY, rfl⟩ : ∃ x, x = wr := ⟨_, rfl⟩
    by_cases hlt : k < n
    · obtain ⟨⟨x0, x1, x2⟩, hx⟩ : ∃ x, xs[k]? = some x := ⟨_, List.getElem?_eq_getElem (by have := HZ.out; omega)⟩
      have hA := At.below HA.out hbw
      obtain ⟨b, off, rfl, hb, hc⟩ := flStep_some HA.out (by have := HZ.out; omega)
      obtain ⟨c0, c1, c2⟩ := hc k _ hx
      have c0 := (hbw.cell hb).trans c0
      have c1 := (hbw.cell hb).trans c1
      have c2 := (hbw.cell hb).trans c2
      have hbG : b ≠ G := by omega
      have hgx := gp_at HG.out hx
      simp only at c0 c1 c2 hgx
      obtain ⟨t, rfl⟩ : ∃ t : Nat, x0 = (t : Int) := ⟨x0.toNat, by omega⟩
      have ht6 : t < 6 := by omega
      have ht6i : (t : Int) < 6 := by omega
      have hki : (k : Int) < (n : Int) := by omega
      have hwk : IntKind.i64.wrap ((k : Int) + 1) = ((k + 1 : Nat) : Int) := by rw [IntWalk.i64_in _ (by omega)]; omega
      obtain ⟨V, hV⟩ : ∃ V, V = wY.alloc (.cells #[.int .i64 (t : Int), .int .i64 x1, .int .i64 x2] 46) := ⟨_, rfl⟩
      have hbV : Below wY.heap.size wY V := by rw [hV]; exact (Below.refl _ _).alloc (Nat.le_refl _) _
      have v0 : V.cell? ⟨wY.heap.size, 0, none⟩ = some (.int .i64 (t : Int)) := by rw [hV]; simp
      have v1 : V.cell? ⟨wY.heap.size, 1, none⟩ = some (.int .i64 x1) := by rw [hV]; simp
      have v2 : V.cell? ⟨wY.heap.size, 2, none⟩ = some (.int .i64 x2) := by rw [hV]; simp
      have HIV : Hid (V.heap[G]? = some (.cells ((cfO xs k).map encK).toArray 57 (0, 0))) := Hid.mk (blk_below hi hbV)
      have HBV := Hid.mk (hbw.trans (hbV.mono hbw.size))
      have hGV : G + 1 ≤ V.heap.size := Nat.le_trans hGw hbV.size
      have hYG : wY.heap.size ≠ G := by omega
      have HAV : Hid (At V (some ⟨b, off, none⟩) (flStep xs)) := Hid.mk (At.below hA hbV)
      have HX := Hid.mk hx
      have HSUC := Hid.mk (cfO_succ hx)
      have hkn1 : k + 1 ≤ n := by omega
      clear hc hx hi hbw hA hbV
      go_upto_region 5 with fail
      rw [← hV]
      clear hV c0 c1 c2
      obtain ⟨p, hp⟩ : ∃ p, k + 1 = p := ⟨_, rfl⟩
      rw [hp] at hwk hkn1 HSUC
      have hpc : p ≤ c := by omega
      by_cases hcp : c = p
      · obtain rfl : n = p := by omega
        subst hcp
        have HIN : Hid (V.heap[G]? = some (.cells ((cfO xs (k + 1)).map encK).toArray 57 (0, 0))) := Hid.mk (by
          rw [hp, HSUC.out, List.drop_of_length_le (by rw [HZ.out]; omega)]
          exact HIV.out)
        clear HIV HX
        go_wp2
        refine wp_loop_rounds 1 ?_
        rw [rounds_succ]
        go_wp2
        go_roundw
        case rel => exact ⟨k + 1, by omega, by go_num, HIN.out, hGV, HBV.out⟩
        case measure => simp [intOf]; omega
      have hcp' : ¬ p = c := fun e => hcp e.symm
      have HAD : Hid (At V (some ⟨b, off + p * 3, none⟩) (flStep (xs.drop p))) := Hid.mk (by rw [flStep_drop]; exact flat_drop _ HAV.out)
      clear HAV
      go_wp2
      go_loopw [21] (fun i wr => ∃ (j : Nat), j ≤ n - p ∧ i = .int .i64 j ∧ (wr.heap[G]? = some (.cells ((cfI ((t : Int), x1, x2) ((xs.drop (k + 1)).take j) (cfO xs k)).map encK).toArray 57 (0, 0))) ∧ Off (fun b => b = G) V wr ∧ Below w.heap.size w wr) (fun i _ => n - p - (intOf i).toNat)
      case atStart => exact ⟨0, Nat.zero_le _, rfl, by simpa [cfI] using HIV.out, Off.refl _ _, HBV.out⟩
      case round =>
        clear HIV HBV
        obtain ⟨j, hj, rfl, hi, hof, hbw⟩ := hrel
        obtain ⟨wZ, rfl⟩ : ∃ x, x = wr := ⟨_, rfl⟩
        by_cases hjn : j < n - p
        · obtain ⟨⟨y0, y1, y2⟩, hy⟩ : ∃ x, (xs.drop p)[j]? = some x := ⟨_, List.getElem?_eq_getElem (by rw [List.length_drop]; have := HZ.out; omega)⟩
          have hy' : xs[p + j]? = some (y0, y1, y2) := by rw [← hy, List.getElem?_drop]
          have hgy := gp_at HG.out hy'
          obtain ⟨b9, off9, e9, hb9, hc⟩ := flStep_some HAD.out (by rw [List.length_drop]; have := HZ.out; omega)
          simp only [Option.some.injEq, Addr.mk.injEq, and_true] at e9
          obtain ⟨rfl, rfl⟩ := e9
          obtain ⟨d0, d1, d2⟩ := hc j _ hy
          have d0 := hof.cell d0 hbG
          have d1 := hof.cell d1 hbG
          have d2 := hof.cell d2 hbG
          have z0 := hof.cell v0 hYG
          have z1 := hof.cell v1 hYG
          have z2 := hof.cell v2 hYG
          simp only at d0 d1 d2 hgy
          have hy0 : 0 ≤ y0 := by omega
          have hy6 : y0 < 6 := by omega
          have hji : (j : Int) < ((n - p : Nat) : Int) := by omega
          have hsix := cfI_take_six (xs := xs) HG.out (k := k) ((t : Int), x1, x2) j
          have htk := cfI_take (x := ((t : Int), x1, x2)) (cs := cfO xs k) hy
          rw [← hp] at htk
          obtain ⟨CS, hCS⟩ : ∃ CS, cfI ((t : Int), x1, x2) ((xs.drop (k + 1)).take j) (cfO xs k) = CS := ⟨_, rfl⟩
          rw [hCS] at hi hsix htk
          have HTK := Hid.mk htk
          obtain ⟨U, hU⟩ : ∃ U, U = wZ.alloc (.cells #[.int .i64 y0, .int .i64 y1, .int .i64 y2] 46) := ⟨_, rfl⟩
          have hbU : Below wZ.heap.size wZ U := by rw [hU]; exact (Below.refl _ _).alloc (Nat.le_refl _) _
          have u0 : U.cell? ⟨wZ.heap.size, 0, none⟩ = some (.int .i64 y0) := by rw [hU]; simp
          have u1 : U.cell? ⟨wZ.heap.size, 1, none⟩ = some (.int .i64 y1) := by rw [hU]; simp
          have u2 : U.cell? ⟨wZ.heap.size, 2, none⟩ = some (.int .i64 y2) := by rw [hU]; simp
          have z0 := cell_later hbU z0
          have z1 := cell_later hbU z1
          have z2 := cell_later hbU z2
          have HI : Hid (wZ.heap[G]? = some (.cells ((CS).map encK).toArray 57 (0, 0))) := Hid.mk hi
          have HIU : Hid (U.heap[G]? = some (.cells ((CS).map encK).toArray 57 (0, 0))) := Hid.mk (blk_below HI.out hbU)
          have HFU := Hid.mk (hof.trans (Off.below hbU))
          have HBU := Hid.mk (hbw.trans (hbU.mono hbw.size))
          have hZG : wZ.heap.size ≠ G := by have := hof.size; omega
          have KC := Hid.mk (clash_any (t : Int) x1 x2 y0 y1 y2 U (by omega) (by omega))
          clear hc hy hy' hi hof hbw hbU htk hCS HI
          go_upto_region 8 with fail
          rw [← hU]
          clear hU d0 d1 d2
          go_wp2_with fail
          refine KC.out.mono ?_
          rintro e w3 ⟨rfl, hb3⟩
          have s0 := cell_later hb3 z0
          have s1 := cell_later hb3 u0
          have HI3 : Hid (w3.heap[G]? = some (.cells ((CS).map encK).toArray 57 (0, 0))) := Hid.mk (blk_below HIU.out hb3)
          have HF3 := Hid.mk (HFU.out.trans (Off.below hb3))
          have HB3 := Hid.mk (HBU.out.trans (hb3.mono HBU.out.size))
          clear hb3 KC z0 z1 z2 u0 u1 u2 HIU HFU HBU
          cases hcl : clB ((t : Int), x1, x2) (y0, y1, y2) with
          | false =>
            have HN : Hid (cfI ((t : Int), x1, x2) ((xs.drop (k + 1)).take (j + 1)) (cfO xs k) = CS) := Hid.mk (by rw [HTK.out]; unfold cfS; rw [if_neg (by rw [hcl]; simp)])
            have HIN : Hid (w3.heap[G]? = some (.cells ((cfI ((t : Int), x1, x2) ((xs.drop (k + 1)).take (j + 1)) (cfO xs k)).map encK).toArray 57 (0, 0))) := Hid.mk (by rw [HN.out]; exact HI3.out)
            clear HI3
            go_wp2
            go_roundw
            case rel => exact ⟨j + 1, by omega, by go_num, HIN.out, HF3.out, HB3.out⟩
            case measure => simp [intOf]; omega
          | true =>
          have hCt := hsix.get t
          obtain ⟨C, hC⟩ : ∃ C, CS.getD t 0 = C := ⟨_, rfl⟩
          rw [hC] at hCt
          obtain ⟨D, hD⟩ : ∃ D, C ||| 2 ^ y0.toNat = D := ⟨_, rfl⟩
          have HN : Hid (cfI ((t : Int), x1, x2) ((xs.drop (k + 1)).take (j + 1)) (cfO xs k) = CS.set t D) := Hid.mk (by
            rw [HTK.out]; unfold cfS; rw [if_pos hcl]; simp only [Int.toNat_natCast]; rw [hC, hD])
          have hor : bits .or .u64 (C : Int) (IntKind.u64.wrap (2 ^ y0.toNat)) = ((D : Nat) : Int) := by rw [or_pow hCt hy0 hy6, hD]
          have hcG : w3.drew.cell? ⟨G, t, none⟩ = some (.int .u64 (C : Nat)) := blk_cell (w := w3.drew) HI3.out t (by
            have h9 : CS[t]? = some C := by rw [← hC, List.getD_eq_getElem?_getD, List.getElem?_eq_getElem (by rw [hsix.1]; omega)]; rfl
            simp [h9, encK])
          have hfG : w3.drew.frozen? ⟨G, t, none⟩ = false := blk_frozen (w := w3.drew) HI3.out t
          go_upto_region 9 with fail
          refine wp_region_held_drew (S := fun w' => w'.cell? ⟨wY.heap.size, 0, none⟩ = some (.int .i64 (t : Int)) ∧ w'.cell? ⟨wZ.heap.size, 0, none⟩ = some (.int .i64 y0)) (by kernel_rfl) ?_ (fun hHeld => ?_)
          · (try dsimp only)
            exact ⟨s0, s1⟩
          refine tk 0 ?_
          refine tk 1 ?_
          refine tk 2 ?_
          refine tk 3 ?_
          refine tk 5 ?_
          refine tk 6 ?_
          refine tk 7 ?_
          refine wpAnyH_ready (rs := [4]) (by kernel_rfl) (by simp) ?_
          refine AllReadyH.cons (o := ?_) ?_ (fun K hK => ?_) AllReadyH.nil
          rotate_left
          · (simp only [List.getElem?_toArray, List.getElem?_cons_zero, List.getElem?_cons_succ]; rfl)
          go_simp
          skip
          (try go_wp2_with fail)
          refine hK.out _ _ ?_ (fun hHeld' => ?_)
          · (try dsimp only)
            exact ⟨s0, s1⟩
          clear hK K hHeld
          have hHeld := hHeld'
          clear hHeld'
          (try simp only [Act.put, List.setIfInBounds_toArray, List.set_cons_zero, List.set_cons_succ])
          refine tk 8 ?_
          refine tk 9 ?_
          obtain ⟨X, hX⟩ : ∃ u, u = (w3.setCell ⟨G, t, none⟩ (.int .u64 (D : Nat))).drew := ⟨_, rfl⟩
          have HIX : Hid (X.heap[G]? = some (.cells ((CS.set t D).map encK).toArray 57 (0, 0))) := Hid.mk (by rw [hX]; show (w3.setCell ⟨G, t, none⟩ (.int .u64 (D : Nat))).heap[G]? = _; rw [blk_set HI3.out t _, List.map_set]; simp [encK])
          have HFX : Hid (Off (fun b => b = G) V X) := Hid.mk (by rw [hX]; exact (HF3.out.trans (Off.set (F := fun b => b = G) (a := ⟨G, t, none⟩) rfl _)).drew)
          have HBX : Hid (Below w.heap.size w X) := Hid.mk (by rw [hX]; exact (HB3.out.setCell (p := ⟨G, t, none⟩) hwG _).drew)
          have s0 : X.cell? ⟨wY.heap.size, 0, none⟩ = some (.int .i64 (t : Int)) := by rw [hX]; exact keep_far s0 hYG
          have s1 : X.cell? ⟨wZ.heap.size, 0, none⟩ = some (.int .i64 y0) := by rw [hX]; exact keep_far s1 hZG
          refine tr 10 (fun K hK => ?_)
          go_simp
          (try rw [hor])
          rw [← hX]
          clear hX
          (try go_wp2_with fail)
          refine hK.out _ _ ?_ (fun hHeld' => ?_)
          · (try dsimp only)
            exact ⟨s0, s1⟩
          clear hK K hHeld hHeld'
          (try simp only [Act.put, List.setIfInBounds_toArray, List.set_cons_zero, List.set_cons_succ])
          refine wpAnyH_done (by kernel_rfl) ?_ _
          have HIN : Hid (X.heap[G]? = some (.cells ((cfI ((t : Int), x1, x2) ((xs.drop (k + 1)).take (j + 1)) (cfO xs k)).map encK).toArray 57 (0, 0))) := Hid.mk (by rw [HN.out]; exact HIX.out)
          go_wp2
          go_roundw
          case rel => exact ⟨j + 1, by omega, by go_num, HIN.out, HFX.out, HBX.out⟩
          case measure => simp [intOf]; omega
        · have hji : ¬ (j : Int) < ((n - p : Nat) : Int) := by omega
          have HIN : Hid (wZ.heap[G]? = some (.cells ((cfO xs (k + 1)).map encK).toArray 57 (0, 0))) := Hid.mk (by
            rw [hp, HSUC.out]
            rw [List.take_of_length_le (by rw [List.length_drop]; have := HZ.out; omega), hp] at hi
            exact hi)
          have hGZ : G + 1 ≤ wZ.heap.size := Nat.le_trans hGV hof.size
          have HB := Hid.mk hbw
          clear hi hof hbw
          go_wp2
          go_roundw
          case rel => exact ⟨k + 1, by omega, by go_num, HIN.out, hGZ, HB.out⟩
          case measure => simp [intOf]; omega
    · obtain rfl : k = n := by omega
      have hki : ¬ (k : Int) < (k : Int) := by omega
      have HIN : Hid (wY.heap[G]? = some (.cells ((cfL xs).map encK).toArray 57 (0, 0))) := Hid.mk (by unfold cfL; rw [HZ.out]; exact hi)
      clear hi
      go_wp2
      go_ret
      exact ⟨⟨G, rfl, hwG, HIN.out⟩, hbw⟩

theorem own_six {w : World} {g : Nat} {cs : List Nat} (hl : cs.length = 6) (h : w.heap[g]? = some (.cells (cs.map encK).toArray 57 (0, 0))) : w.ownsRow g 57 1 (.slice (some ⟨g, 0, none⟩) 6 6) 6 (cs.map encK) :=
  ⟨by simp [hl], .inr ⟨g, 6, _, rfl, Nat.le_refl _, h, Nat.le_refl _, by decide, by simp [hl], by rw [List.take_of_length_le (by simp [hl])]⟩⟩

set_option maxRecDepth 100000 in
set_option maxHeartbeats 1000000 in
theorem implConflictsOf (a : Option Addr) (n c : Nat) (xs : List TStep) (w : World) (hz : xs.length = n) (hn : n ≤ 1048576) (hnc : n ≤ c) (ha : At w a (flStep xs)) (ht : TabB w) :
    Calls Tryd.prog 9 #[.slice a n c] w fun e w' => KeysRet e w' w.heap.size (gpB xs) (cnL13 xs) ∧ Below w.heap.size w w' := by
  have KG := Hid.mk (implGoodSteps a n c xs w hz (by omega) ha)
  have HZ := Hid.mk hz
  have HA := Hid.mk ha
  clear hz ha
  go_enter Tryd.func9, Tryd.ntmps9
  go_wp2_with fail
  refine KG.out.mono ?_
  rintro e w1 ⟨rfl, hb1⟩
  clear KG
  cases hg : gpB xs with
  | false =>
    have HR : Hid (KeysRet (.returned (.tuple #[.slice none 0 0, .bool false])) w1 w.heap.size (gpB xs) (cnL13 xs)) := Hid.mk (by
      rw [hg, show cnL13 xs = [] by unfold cnL13; rw [hg]; rfl]
      exact ⟨none, 0, 0, rfl, ⟨none, 0, 0, [], fun _ _ => False, rfl, Laid.none _ _ _ _⟩⟩)
    go_wp2
    refine bodyPost_ret (v := .tuple #[.slice none 0 0, .bool false]) (by simp [results, Tryd.results9, go_sem]) rfl ⟨HR.out, hb1⟩
  | true =>
    have KC := Hid.mk (clashesIn_any a n c xs w1 HZ.out hnc hg (At.below HA.out hb1))
    have HL : Hid (cnL13 xs = (cfL xs).map bl) := Hid.mk (by unfold cnL13; rw [hg]; rfl)
    have HSX : Hid (Six (cfL xs)) := Hid.mk (cfO_six (fun y hy => (gp_txn hg y hy).2) _)
    have HG := Hid.mk hg
    have HB1 := Hid.mk hb1
    clear hg hb1
    go_wp2_with fail
    refine KC.out.mono ?_
    rintro e w2 ⟨⟨G, rfl, hwG, hi⟩, hb2⟩
    have KL := Hid.mk (listsK_any G (some ⟨G, 0, none⟩) 6 6 (cfL xs) w2 HSX.out.1 (by omega) HSX.out.2 (own_six HSX.out.1 hi) (TabIs.below ht (HB1.out.trans (hb2.mono HB1.out.size))))
    have HB2 := Hid.mk (HB1.out.trans (hb2.mono HB1.out.size))
    clear KC hi hb2 HB1
    go_wp2_with fail
    refine KL.out.mono ?_
    rintro e w3 ⟨r, m, d, rfl, ho3, hb3⟩
    have HR : Hid (KeysRet (.returned (.tuple #[.slice r m d, .bool true])) w3 w.heap.size (gpB xs) (cnL13 xs)) := Hid.mk (by
      rw [HG.out, HL.out]
      exact ⟨r, m, d, rfl, RPairs.mono ho3 (fun b h => ⟨Nat.le_trans HB2.out.size h.1, h.2⟩)⟩)
    have HB3 := Hid.mk (HB2.out.trans (hb3.mono HB2.out.size))
    clear KL ho3 hb3
    go_wp2
    refine bodyPost_ret (v := .tuple #[.slice r m d, .bool true]) (by simp [results, Tryd.results9, go_sem]) rfl ⟨HR.out, HB3.out⟩

end Go.Proofs.YtociphdhkjoofaaDoor
