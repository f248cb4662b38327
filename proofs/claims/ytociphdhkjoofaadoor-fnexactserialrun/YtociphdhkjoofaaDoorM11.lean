/- Several texts of one proof, in build order: CfI, SoI. -/
import Derived.Test.YtociphdhkjoofaaDoorM5
import Derived.Test.YtociphdhkjoofaaDoorM9
import Derived.Test.YtociphdhkjoofaaDoorM10
import Derived.Deep.CutBlock

/- Contracts of impl.clashesIn and impl.ConflictsOf. -/
namespace Go.Proofs.YtociphdhkjoofaaDoor
open Go.RowKit

theorem Tryd.infoNS : (Tryd.prog.info? 57).map (fun i => (i.zero, i.size, i.bytes)) = some (some (.int .u64 0), 1, 8) := by kernel_rfl

set_option maxRecDepth 100000 in
set_option maxHeartbeats 4000000 in
theorem clashesIn_any (a : Option Addr) (n c : Nat) (xs : List TStep) (w : World) (hz : xs.length = n) (hnc : n ≤ c) (hg : gpB xs = true) (ha : At w a (flStep xs)) :
    Calls Tryd.prog 29 #[.slice a n c] w fun e w' => (∃ G, e = .returned (.slice (some ⟨G, 0, none⟩) 6 6) ∧ w.heap.size ≤ G ∧ w'.heap[G]? = some (.cells ((cfL xs).map encK).toArray 57 (0, 0))) ∧ Below w.heap.size w w' := by
  obtain ⟨j0, hj0, hy0, hy1, hy2⟩ := info_parts Tryd.infoNS
  have hn40 : n ≤ 40 := by have := gp_len hg; omega
  have HZ := Hid.mk hz
  have HA := Hid.mk ha
  have HG := Hid.mk hg
  clear hz ha hg
  obtain ⟨G, hG⟩ : ∃ G, w.heap.size = G := ⟨_, rfl⟩
  have hwG : w.heap.size ≤ G := by omega
  go_enter Tryd.func29, Tryd.ntmps29
  go_wp2_with (at_make; refine wpList_make_full _ rfl _ _ 50 rfl w.heap.size 57 j0 (.int .u64 0) 1 Tryd.underlying50 hj0 hy0 hy1 .i64 .i64 _ _ 6 rfl rfl rfl rfl (by rw [hy2]; omega) (by unfold maxLen; omega) (Nat.le_refl _) ?_; intro w1 hown hgr)
  have hb1 : Below w.heap.size w w1 := (Below.refl _ _).grown hgr (Nat.le_refl _) (by simp)
  (try rw [hG] at hown)
  have hi1 : w1.heap[G]? = some (.cells ((cfO xs 0).map encK).toArray 57 (0, 0)) := by
    have e6 : (madeCells (Value.int .u64 0).cells (6 * 1)).toList = (cfO xs 0).map encK := by simp [madeCells, Value.cells, List.range, List.range.loop, cfO, List.replicate, encK]
    rw [e6] at hown
    exact own_rowC hown
  have hG1 : G + 1 ≤ w1.heap.size := by
    rcases hown.2 with ⟨h, _⟩ | ⟨g', cap, cur, hv, _, hh, _⟩
    · cases h
    · simp only [Value.slice.injEq, Option.some.injEq, Addr.mk.injEq, true_and, and_true] at hv
      obtain ⟨rfl, _⟩ := hv
      exact (Array.getElem?_eq_some_iff.1 hh).1
  (try rw [hG])
  have HI1 := Hid.mk hi1
  have HB1 := Hid.mk hb1
  clear hi1 hb1 hown hgr hG
  go_wp2_with fail
  go_loopw [11] (fun i wr => ∃ (k : Nat), k ≤ n ∧ i = .int .i64 k ∧ (wr.heap[G]? = some (.cells ((cfO xs k).map encK).toArray 57 (0, 0))) ∧ G + 1 ≤ wr.heap.size ∧ Below w.heap.size w wr) (fun i _ => n - (intOf i).toNat)
  case atStart => exact ⟨0, Nat.zero_le _, rfl, HI1.out, hG1, HB1.out⟩
  case round =>
    clear HI1 HB1
    obtain ⟨k, hk, rfl, hi, hGw, hbw⟩ := hrel
    obtain ⟨wY, rfl⟩ : ∃ x, x = wr := ⟨_, rfl⟩
    by_cases hlt : k < n
    · obtain ⟨⟨x0, x1, x2⟩, hx⟩ : ∃ x, xs[k]? = some x := ⟨_, List.getElem?_eq_getElem (by have := HZ.out; omega)⟩
      have hA := At.below HA.out hbw
      obtain ⟨b, off, rfl, hb, hc⟩ := flStep_some HA.out (by have := HZ.out; omega)
      obtain ⟨c0, c1, c2⟩ := hc k _ hx
      have c0 := (hbw.cell hb).trans c0
      have c1 := (hbw.cell hb).trans c1
      have c2 := (hbw.cell hb).trans c2
      have hbG : b ≠ G := by omega
      have hgx := gp_at HG.out hx
      simp only at c0 c1 c2 hgx
      obtain ⟨t, rfl⟩ : ∃ t : Nat, x0 = (t : Int) := ⟨x0.toNat, by omega⟩
      have ht6 : t < 6 := by omega
      have ht6i : (t : Int) < 6 := by omega
      have hki : (k : Int) < (n : Int) := by omega
      have hwk : IntKind.i64.wrap ((k : Int) + 1) = ((k + 1 : Nat) : Int) := by rw [IntWalk.i64_in _ (by omega)]; omega
      obtain ⟨V, hV⟩ : ∃ V, V = wY.alloc (.cells #[.int .i64 (t : Int), .int .i64 x1, .int .i64 x2] 46) := ⟨_, rfl⟩
      have hbV : Below wY.heap.size wY V := by rw [hV]; exact (Below.refl _ _).alloc (Nat.le_refl _) _
      have v0 : V.cell? ⟨wY.heap.size, 0, none⟩ = some (.int .i64 (t : Int)) := by rw [hV]; simp
      have v1 : V.cell? ⟨wY.heap.size, 1, none⟩ = some (.int .i64 x1) := by rw [hV]; simp
      have v2 : V.cell? ⟨wY.heap.size, 2, none⟩ = some (.int .i64 x2) := by rw [hV]; simp
      have HIV : Hid (V.heap[G]? = some (.cells ((cfO xs k).map encK).toArray 57 (0, 0))) := Hid.mk (blk_below hi hbV)
      have HBV := Hid.mk (hbw.trans (hbV.mono hbw.size))
      have hGV : G + 1 ≤ V.heap.size := Nat.le_trans hGw hbV.size
      have hYG : wY.heap.size ≠ G := by omega
      have HAV : Hid (At V (some ⟨b, off, none⟩) (flStep xs)) := Hid.mk (At.below hA hbV)
      have HX := Hid.mk hx
      have HSUC := Hid.mk (cfO_succ hx)
      have hkn1 : k + 1 ≤ n := by omega
      clear hc hx hi hbw hA hbV
      go_upto_region 5 with fail
      rw [← hV]
      clear hV c0 c1 c2
      obtain ⟨p, hp⟩ : ∃ p, k + 1 = p := ⟨_, rfl⟩
      rw [hp] at hwk hkn1 HSUC
      have hpc : p ≤ c := by omega
      by_cases hcp : c = p
      · obtain rfl : n = p := by omega
        subst hcp
        have HIN : Hid (V.heap[G]? = some (.cells ((cfO xs (k + 1)).map encK).toArray 57 (0, 0))) := Hid.mk (by
          rw [hp, HSUC.out, List.drop_of_length_le (by rw [HZ.out]; omega)]
          exact HIV.out)
        clear HIV HX
        go_wp2
        refine wp_loop_rounds 1 ?_
        rw [rounds_succ]
        go_wp2
        go_roundw
        case rel => exact ⟨k + 1, by omega, by go_num, HIN.out, hGV, HBV.out⟩
        case measure => simp [intOf]; omega
      have hcp' : ¬ p = c := fun e => hcp e.symm
      have HAD : Hid (At V (some ⟨b, off + p * 3, none⟩) (flStep (xs.drop p))) := Hid.mk (by rw [flStep_drop]; exact flat_drop _ HAV.out)
      clear HAV
      go_wp2
      go_loopw [21] (fun i wr => ∃ (j : Nat), j ≤ n - p ∧ i = .int .i64 j ∧ (wr.heap[G]? = some (.cells ((cfI ((t : Int), x1, x2) ((xs.drop (k + 1)).take j) (cfO xs k)).map encK).toArray 57 (0, 0))) ∧ Off (fun b => b = G) V wr ∧ Below w.heap.size w wr) (fun i _ => n - p - (intOf i).toNat)
      case atStart => exact ⟨0, Nat.zero_le _, rfl, by simpa [cfI] using HIV.out, Off.refl _ _, HBV.out⟩
      case round =>
        clear HIV HBV
        obtain ⟨j, hj, rfl, hi, hof, hbw⟩ := hrel
        obtain ⟨wZ, rfl⟩ : ∃ x, x = wr := ⟨_, rfl⟩
        by_cases hjn : j < n - p
        · obtain ⟨⟨y0, y1, y2⟩, hy⟩ : ∃ x, (xs.drop p)[j]? = some x := ⟨_, List.getElem?_eq_getElem (by rw [List.length_drop]; have := HZ.out; omega)⟩
          have hy' : xs[p + j]? = some (y0, y1, y2) := by rw [← hy, List.getElem?_drop]
          have hgy := gp_at HG.out hy'
          obtain ⟨b9, off9, e9, hb9, hc⟩ := flStep_some HAD.out (by rw [List.length_drop]; have := HZ.out; omega)
          simp only [Option.some.injEq, Addr.mk.injEq, and_true] at e9
          obtain ⟨rfl, rfl⟩ := e9
          obtain ⟨d0, d1, d2⟩ := hc j _ hy
          have d0 := hof.cell d0 hbG
          have d1 := hof.cell d1 hbG
          have d2 := hof.cell d2 hbG
          have z0 := hof.cell v0 hYG
          have z1 := hof.cell v1 hYG
          have z2 := hof.cell v2 hYG
          simp only at d0 d1 d2 hgy
          have hy0 : 0 ≤ y0 := by omega
          have hy6 : y0 < 6 := by omega
          have hji : (j : Int) < ((n - p : Nat) : Int) := by omega
          have hsix := cfI_take_six (xs := xs) HG.out (k := k) ((t : Int), x1, x2) j
          have htk := cfI_take (x := ((t : Int), x1, x2)) (cs := cfO xs k) hy
          rw [← hp] at htk
          obtain ⟨CS, hCS⟩ : ∃ CS, cfI ((t : Int), x1, x2) ((xs.drop (k + 1)).take j) (cfO xs k) = CS := ⟨_, rfl⟩
          rw [hCS] at hi hsix htk
          have HTK := Hid.mk htk
          obtain ⟨U, hU⟩ : ∃ U, U = wZ.alloc (.cells #[.int .i64 y0, .int .i64 y1, .int .i64 y2] 46) := ⟨_, rfl⟩
          have hbU : Below wZ.heap.size wZ U := by rw [hU]; exact (Below.refl _ _).alloc (Nat.le_refl _) _
          have u0 : U.cell? ⟨wZ.heap.size, 0, none⟩ = some (.int .i64 y0) := by rw [hU]; simp
          have u1 : U.cell? ⟨wZ.heap.size, 1, none⟩ = some (.int .i64 y1) := by rw [hU]; simp
          have u2 : U.cell? ⟨wZ.heap.size, 2, none⟩ = some (.int .i64 y2) := by rw [hU]; simp
          have z0 := cell_later hbU z0
          have z1 := cell_later hbU z1
          have z2 := cell_later hbU z2
          have HI : Hid (wZ.heap[G]? = some (.cells ((CS).map encK).toArray 57 (0, 0))) := Hid.mk hi
          have HIU : Hid (U.heap[G]? = some (.cells ((CS).map encK).toArray 57 (0, 0))) := Hid.mk (blk_below HI.out hbU)
          have HFU := Hid.mk (hof.trans (Off.below hbU))
          have HBU := Hid.mk (hbw.trans (hbU.mono hbw.size))
          have hZG : wZ.heap.size ≠ G := by have := hof.size; omega
          have KC := Hid.mk (clash_any (t : Int) x1 x2 y0 y1 y2 U (by omega) (by omega))
          clear hc hy hy' hi hof hbw hbU htk hCS HI
          go_upto_region 8 with fail
          rw [← hU]
          clear hU d0 d1 d2
          go_wp2_with fail
          refine KC.out.mono ?_
          rintro e w3 ⟨rfl, hb3⟩
          have s0 := cell_later hb3 z0
          have s1 := cell_later hb3 u0
          have HI3 : Hid (w3.heap[G]? = some (.cells ((CS).map encK).toArray 57 (0, 0))) := Hid.mk (blk_below HIU.out hb3)
          have HF3 := Hid.mk (HFU.out.trans (Off.below hb3))
          have HB3 := Hid.mk (HBU.out.trans (hb3.mono HBU.out.size))
          clear hb3 KC z0 z1 z2 u0 u1 u2 HIU HFU HBU
          cases hcl : clB ((t : Int), x1, x2) (y0, y1, y2) with
          | false =>
            have HN : Hid (cfI ((t : Int), x1, x2) ((xs.drop (k + 1)).take (j + 1)) (cfO xs k) = CS) := Hid.mk (by rw [HTK.out]; unfold cfS; rw [if_neg (by rw [hcl]; simp)])
            have HIN : Hid (w3.heap[G]? = some (.cells ((cfI ((t : Int), x1, x2) ((xs.drop (k + 1)).take (j + 1)) (cfO xs k)).map encK).toArray 57 (0, 0))) := Hid.mk (by rw [HN.out]; exact HI3.out)
            clear HI3
            go_wp2
            go_roundw
            case rel => exact ⟨j + 1, by omega, by go_num, HIN.out, HF3.out, HB3.out⟩
            case measure => simp [intOf]; omega
          | true =>
          have hCt := hsix.get t
          obtain ⟨C, hC⟩ : ∃ C, CS.getD t 0 = C := ⟨_, rfl⟩
          rw [hC] at hCt
          obtain ⟨D, hD⟩ : ∃ D, C ||| 2 ^ y0.toNat = D := ⟨_, rfl⟩
          have HN : Hid (cfI ((t : Int), x1, x2) ((xs.drop (k + 1)).take (j + 1)) (cfO xs k) = CS.set t D) := Hid.mk (by
            rw [HTK.out]; unfold cfS; rw [if_pos hcl]; simp only [Int.toNat_natCast]; rw [hC, hD])
          have hor : bits .or .u64 (C : Int) (IntKind.u64.wrap (2 ^ y0.toNat)) = ((D : Nat) : Int) := by rw [or_pow hCt hy0 hy6, hD]
          have hcG : w3.drew.cell? ⟨G, t, none⟩ = some (.int .u64 (C : Nat)) := blk_cell (w := w3.drew) HI3.out t (by
            have h9 : CS[t]? = some C := by rw [← hC, List.getD_eq_getElem?_getD, List.getElem?_eq_getElem (by rw [hsix.1]; omega)]; rfl
            simp [h9, encK])
          have hfG : w3.drew.frozen? ⟨G, t, none⟩ = false := blk_frozen (w := w3.drew) HI3.out t
          go_upto_region 9 with fail
          refine wp_region_held_drew (S := fun w' => w'.cell? ⟨wY.heap.size, 0, none⟩ = some (.int .i64 (t : Int)) ∧ w'.cell? ⟨wZ.heap.size, 0, none⟩ = some (.int .i64 y0)) (by kernel_rfl) ?_ (fun hHeld => ?_)
          · (try dsimp only)
            exact ⟨s0, s1⟩
          refine tk 0 ?_
          refine tk 1 ?_
          refine tk 2 ?_
          refine tk 3 ?_
          refine tk 5 ?_
          refine tk 6 ?_
          refine tk 7 ?_
          refine wpAnyH_ready (rs := [4]) (by kernel_rfl) (by simp) ?_
          refine AllReadyH.cons (o := ?_) ?_ (fun K hK => ?_) AllReadyH.nil
          rotate_left
          · (simp only [List.getElem?_toArray, List.getElem?_cons_zero, List.getElem?_cons_succ]; rfl)
          go_simp
          skip
          (try go_wp2_with fail)
          refine hK.out _ _ ?_ (fun hHeld' => ?_)
          · (try dsimp only)
            exact ⟨s0, s1⟩
          clear hK K hHeld
          have hHeld := hHeld'
          clear hHeld'
          (try simp only [Act.put, List.setIfInBounds_toArray, List.set_cons_zero, List.set_cons_succ])
          refine tk 8 ?_
          refine tk 9 ?_
          obtain ⟨X, hX⟩ : ∃ u, u = (w3.setCell ⟨G, t, none⟩ (.int .u64 (D : Nat))).drew := ⟨_, rfl⟩
          have HIX : Hid (X.heap[G]? = some (.cells ((CS.set t D).map encK).toArray 57 (0, 0))) := Hid.mk (by rw [hX]; show (w3.setCell ⟨G, t, none⟩ (.int .u64 (D : Nat))).heap[G]? = _; rw [blk_set HI3.out t _, List.map_set]; simp [encK])
          have HFX : Hid (Off (fun b => b = G) V X) := Hid.mk (by rw [hX]; exact (HF3.out.trans (Off.set (F := fun b => b = G) (a := ⟨G, t, none⟩) rfl _)).drew)
          have HBX : Hid (Below w.heap.size w X) := Hid.mk (by rw [hX]; exact (HB3.out.setCell (p := ⟨G, t, none⟩) hwG _).drew)
          have s0 : X.cell? ⟨wY.heap.size, 0, none⟩ = some (.int .i64 (t : Int)) := by rw [hX]; exact keep_far s0 hYG
          have s1 : X.cell? ⟨wZ.heap.size, 0, none⟩ = some (.int .i64 y0) := by rw [hX]; exact keep_far s1 hZG
          refine tr 10 (fun K hK => ?_)
          go_simp
          (try rw [hor])
          rw [← hX]
          clear hX
          (try go_wp2_with fail)
          refine hK.out _ _ ?_ (fun hHeld' => ?_)
          · (try dsimp only)
            exact ⟨s0, s1⟩
          clear hK K hHeld hHeld'
          (try simp only [Act.put, List.setIfInBounds_toArray, List.set_cons_zero, List.set_cons_succ])
          refine wpAnyH_done (by kernel_rfl) ?_ _
          have HIN : Hid (X.heap[G]? = some (.cells ((cfI ((t : Int), x1, x2) ((xs.drop (k + 1)).take (j + 1)) (cfO xs k)).map encK).toArray 57 (0, 0))) := Hid.mk (by rw [HN.out]; exact HIX.out)
          go_wp2
          go_roundw
          case rel => exact ⟨j + 1, by omega, by go_num, HIN.out, HFX.out, HBX.out⟩
          case measure => simp [intOf]; omega
        · have hji : ¬ (j : Int) < ((n - p : Nat) : Int) := by omega
          have HIN : Hid (wZ.heap[G]? = some (.cells ((cfO xs (k + 1)).map encK).toArray 57 (0, 0))) := Hid.mk (by
            rw [hp, HSUC.out]
            rw [List.take_of_length_le (by rw [List.length_drop]; have := HZ.out; omega), hp] at hi
            exact hi)
          have hGZ : G + 1 ≤ wZ.heap.size := Nat.le_trans hGV hof.size
          have HB := Hid.mk hbw
          clear hi hof hbw
          go_wp2
          go_roundw
          case rel => exact ⟨k + 1, by omega, by go_num, HIN.out, hGZ, HB.out⟩
          case measure => simp [intOf]; omega
    · obtain rfl : k = n := by omega
      have hki : ¬ (k : Int) < (k : Int) := by omega
      have HIN : Hid (wY.heap[G]? = some (.cells ((cfL xs).map encK).toArray 57 (0, 0))) := Hid.mk (by unfold cfL; rw [HZ.out]; exact hi)
      clear hi
      go_wp2
      go_ret
      exact ⟨⟨G, rfl, hwG, HIN.out⟩, hbw⟩

theorem own_six {w : World} {g : Nat} {cs : List Nat} (hl : cs.length = 6) (h : w.heap[g]? = some (.cells (cs.map encK).toArray 57 (0, 0))) : w.ownsRow g 57 1 (.slice (some ⟨g, 0, none⟩) 6 6) 6 (cs.map encK) :=
  ⟨by simp [hl], .inr ⟨g, 6, _, rfl, Nat.le_refl _, h, Nat.le_refl _, by decide, by simp [hl], by rw [List.take_of_length_le (by simp [hl])]⟩⟩

set_option maxRecDepth 100000 in
set_option maxHeartbeats 1000000 in
theorem implConflictsOf (a : Option Addr) (n c : Nat) (xs : List TStep) (w : World) (hz : xs.length = n) (hn : n ≤ 1048576) (hnc : n ≤ c) (ha : At w a (flStep xs)) (ht : TabB w) :
    Calls Tryd.prog 9 #[.slice a n c] w fun e w' => KeysRet e w' w.heap.size (gpB xs) (cnL13 xs) ∧ Below w.heap.size w w' := by
  have KG := Hid.mk (implGoodSteps a n c xs w hz (by omega) ha)
  have HZ := Hid.mk hz
  have HA := Hid.mk ha
  clear hz ha
  go_enter Tryd.func9, Tryd.ntmps9
  go_wp2_with fail
  refine KG.out.mono ?_
  rintro e w1 ⟨rfl, hb1⟩
  clear KG
  cases hg : gpB xs with
  | false =>
    have HR : Hid (KeysRet (.returned (.tuple #[.slice none 0 0, .bool false])) w1 w.heap.size (gpB xs) (cnL13 xs)) := Hid.mk (by
      rw [hg, show cnL13 xs = [] by unfold cnL13; rw [hg]; rfl]
      exact ⟨none, 0, 0, rfl, ⟨none, 0, 0, [], fun _ _ => False, rfl, Laid.none _ _ _ _⟩⟩)
    go_wp2
    refine bodyPost_ret (v := .tuple #[.slice none 0 0, .bool false]) (by simp [results, Tryd.results9, go_sem]) rfl ⟨HR.out, hb1⟩
  | true =>
    have KC := Hid.mk (clashesIn_any a n c xs w1 HZ.out hnc hg (At.below HA.out hb1))
    have HL : Hid (cnL13 xs = (cfL xs).map bl) := Hid.mk (by unfold cnL13; rw [hg]; rfl)
    have HSX : Hid (Six (cfL xs)) := Hid.mk (cfO_six (fun y hy => (gp_txn hg y hy).2) _)
    have HG := Hid.mk hg
    have HB1 := Hid.mk hb1
    clear hg hb1
    go_wp2_with fail
    refine KC.out.mono ?_
    rintro e w2 ⟨⟨G, rfl, hwG, hi⟩, hb2⟩
    have KL := Hid.mk (listsK_any G (some ⟨G, 0, none⟩) 6 6 (cfL xs) w2 HSX.out.1 (by omega) HSX.out.2 (own_six HSX.out.1 hi) (TabIs.below ht (HB1.out.trans (hb2.mono HB1.out.size))))
    have HB2 := Hid.mk (HB1.out.trans (hb2.mono HB1.out.size))
    clear KC hi hb2 HB1
    go_wp2_with fail
    refine KL.out.mono ?_
    rintro e w3 ⟨r, m, d, rfl, ho3, hb3⟩
    have HR : Hid (KeysRet (.returned (.tuple #[.slice r m d, .bool true])) w3 w.heap.size (gpB xs) (cnL13 xs)) := Hid.mk (by
      rw [HG.out, HL.out]
      exact ⟨r, m, d, rfl, RPairs.mono ho3 (fun b h => ⟨Nat.le_trans HB2.out.size h.1, h.2⟩)⟩)
    have HB3 := Hid.mk (HB2.out.trans (hb3.mono HB2.out.size))
    clear KL ho3 hb3
    go_wp2
    refine bodyPost_ret (v := .tuple #[.slice r m d, .bool true]) (by simp [results, Tryd.results9, go_sem]) rfl ⟨HR.out, HB3.out⟩

end Go.Proofs.YtociphdhkjoofaaDoor

/- Contracts of impl.txnsIn, impl.leastFree, impl.leastOrder, impl.SerialOrder. -/
namespace Go.Proofs.YtociphdhkjoofaaDoor
open Go.RowKit

set_option maxRecDepth 100000 in
set_option maxHeartbeats 1000000 in
theorem txnsIn_any (a : Option Addr) (n c : Nat) (xs : List TStep) (w : World) (hz : xs.length = n) (hg : gpB xs = true) (ha : At w a (flStep xs)) :
    Calls Tryd.prog 33 #[.slice a n c] w fun e w' => e = .returned (.int .u64 (txS xs : Nat)) ∧ Below w.heap.size w w' := by
  have hn40 : n ≤ 40 := by have := gp_len hg; omega
  have HZ := Hid.mk hz
  have HA := Hid.mk ha
  have HG := Hid.mk hg
  clear hz ha hg
  go_enter Tryd.func33, Tryd.ntmps33
  go_wp2_with fail
  go_loopw [3, 8] (fun p i wr => ∃ (k : Nat), k ≤ n ∧ i = .int .i64 k ∧ p = .int .u64 (txS (xs.take k) : Nat) ∧ Below w.heap.size w wr) (fun _ i _ => n - (intOf i).toNat)
  case atStart => exact ⟨0, Nat.zero_le _, rfl, rfl, Below.refl _ _⟩
  case round =>
    obtain ⟨k, hk, rfl, rfl, hbw⟩ := hrel
    obtain ⟨wY, rfl⟩ : ∃ x, x = wr := ⟨_, rfl⟩
    by_cases hlt : k < n
    · obtain ⟨⟨x0, x1, x2⟩, hx⟩ : ∃ x, xs[k]? = some x := ⟨_, List.getElem?_eq_getElem (by have := HZ.out; omega)⟩
      obtain ⟨b, off, rfl, hb, hc⟩ := flStep_some HA.out (by have := HZ.out; omega)
      obtain ⟨c0, c1, c2⟩ := hc k _ hx
      have c0 := (hbw.cell hb).trans c0
      have c1 := (hbw.cell hb).trans c1
      have c2 := (hbw.cell hb).trans c2
      have hgx := gp_at HG.out hx
      simp only at c0 c1 c2 hgx
      have hx0 : 0 ≤ x0 := hgx.1
      have hx6 : x0 < 6 := hgx.2.1
      have hki : (k : Int) < (n : Int) := by omega
      obtain ⟨S, hS⟩ : ∃ S, txS (xs.take k) = S := ⟨_, rfl⟩
      have hS6 : S < 64 := by rw [← hS]; exact txS_lt fun y hy => (gp_txn HG.out y (List.mem_of_mem_take hy)).2
      have HN : Hid (txS (xs.take (k + 1)) = S ||| 2 ^ x0.toNat) := Hid.mk (by rw [txS_take hx, hS])
      rw [hS]
      obtain ⟨V, hV⟩ : ∃ V, V = wY.alloc (.cells #[.int .i64 x0, .int .i64 x1, .int .i64 x2] 46) := ⟨_, rfl⟩
      have v0 : V.cell? ⟨wY.heap.size, 0, none⟩ = some (.int .i64 x0) := by rw [hV]; simp
      have HB : Hid (Below w.heap.size w V) := Hid.mk (by rw [hV]; exact hbw.alloc hbw.size _)
      clear hc hx hS hbw hgx
      go_upto_region 5 with fail
      rw [← hV]
      clear hV c0 c1 c2
      go_wp2
      go_roundw
      case rel => exact ⟨k + 1, by omega, by go_num, by rw [HN.out, or_pow hS6 hx0 hx6], HB.out⟩
      case measure => simp [intOf]; omega
    · obtain rfl : k = n := by omega
      have hki : ¬ (k : Int) < (k : Int) := by omega
      rw [List.take_of_length_le (by have := HZ.out; omega)]
      go_wp2
      go_ret
      exact ⟨rfl, hbw⟩

set_option maxRecDepth 100000 in
set_option maxHeartbeats 2000000 in
theorem leastFree_any (L G : Nat) (cs : List Nat) (w : World) (hL : L < 64) (h6 : Six cs) (hG : w.heap[G]? = some (.cells (cs.map encK).toArray 57 (0, 0))) (ht : TabB w) :
    Calls Tryd.prog 46 #[.int .u64 (L : Nat), .slice (some ⟨G, 0, none⟩) 6 6] w fun e w' => e = .returned (.tuple #[.int .i64 ((nxt cs L).getD 0), .bool (nxt cs L).isSome]) ∧ Below w.heap.size w w' := by
  have KL := Hid.mk (list_any L w hL ht)
  have HG := Hid.mk hG
  have H6 := Hid.mk h6
  have HT := Hid.mk ht
  clear hG h6 ht
  go_enter Tryd.func46, Tryd.ntmps46
  go_wp2_with fail
  refine KL.out.mono ?_
  rintro e w1 ⟨r, m, d, rfl, hm, ho, hb1⟩
  have hm6 : m ≤ 6 := by rw [← hm]; exact bl_len L
  have HM := Hid.mk hm
  have HAT := Hid.mk (At.owned ho)
  have HB1 := Hid.mk hb1
  clear KL hm ho hb1
  go_wp2_with fail
  go_loopw [6, 13] (fun p i wr => ∃ (j : Nat), j ≤ m ∧ i = .int .i64 j ∧ p = .int .u64 (brO cs ((bl L).take j) : Nat) ∧ wr = w1) (fun _ i _ => m - (intOf i).toNat)
  case atStart => exact ⟨0, Nat.zero_le _, rfl, rfl, rfl⟩
  case round =>
    obtain ⟨j, hj, rfl, rfl, rfl⟩ := hrel
    by_cases hlt : j < m
    · obtain ⟨x, hx⟩ : ∃ x, (bl L)[j]? = some x := ⟨_, List.getElem?_eq_getElem (by have := HM.out; omega)⟩
      have hxi := bl_in (List.mem_of_getElem? hx)
      obtain ⟨t, rfl⟩ : ∃ t : Nat, x = (t : Int) := ⟨x.toNat, by omega⟩
      have ht6 : t < 6 := by omega
      obtain ⟨b, off, rfl, _, hc⟩ := HAT.out.some (by have := HM.out; omega)
      have hcx : wr.cell? ⟨b, off + j, none⟩ = some (.int .i64 (t : Int)) := by
        rw [hc j (by have := HM.out; omega)]; simp [List.getD, hx]
      obtain ⟨C, hC⟩ : ∃ C, cs.getD t 0 = C := ⟨_, rfl⟩
      have hC64 : C < 64 := by rw [← hC]; exact H6.out.get t
      have hcG : wr.cell? ⟨G, t, none⟩ = some (.int .u64 (C : Nat)) := cell_later HB1.out (blk_cell HG.out t (by
        have h9 : cs[t]? = some C := by rw [← hC, List.getD_eq_getElem?_getD, List.getElem?_eq_getElem (by rw [H6.out.1]; omega)]; rfl
        simp [h9, encK]))
      have HN := Hid.mk (brO_take (cs := cs) hx)
      have hB64 := brO_lt H6.out ((bl L).take j)
      obtain ⟨B, hB⟩ : ∃ B, brO cs ((bl L).take j) = B := ⟨_, rfl⟩
      rw [hB, Int.toNat_natCast, hC] at HN
      rw [hB] at hB64 ⊢
      have hor := u64_or_nat B C (by omega) (by omega)
      have hji : (j : Int) < (m : Int) := by omega
      clear hc hx hxi hB hC
      go_wp2
      go_roundw
      case rel => exact ⟨j + 1, by omega, by go_num, by rw [HN.out], trivial⟩
      case measure => simp [intOf]; omega
    · obtain rfl : j = m := by omega
      have hji : ¬ (j : Int) < (j : Int) := by omega
      rw [List.take_of_length_le (by have := HM.out; omega)]
      have hB64 := brO_lt H6.out (bl L)
      have HH := Hid.mk (nxt_head H6.out hL)
      obtain ⟨B, hB⟩ : ∃ B, brO cs (bl L) = B := ⟨_, rfl⟩
      rw [hB] at hB64 HH ⊢
      have hF64 : dfN L B < 64 := dfN_lt hL
      have han : bits .andNot .u64 (L : Int) (B : Int) = ((dfN L B : Nat) : Int) := u64_andNot_nat L B (by omega) (by omega)
      obtain ⟨F, hF⟩ : ∃ F, dfN L B = F := ⟨_, rfl⟩
      rw [hF] at hF64 HH han
      clear hB hF
      by_cases hF0 : F = 0
      · subst hF0
        have HN : Hid (nxt cs L = none) := Hid.mk (by rw [HH.out]; decide)
        go_wp2
        refine bodyPost_ret (v := .tuple #[.int .i64 0, .bool false]) (by simp [results, Tryd.results46, go_sem]) rfl ⟨by rw [HN.out]; rfl, HB1.out⟩
      · have hF0' : ¬ (F : Int) = 0 := by omega
        have hF0b : ((F : Int) == 0) = false := beq_eq_false_iff_ne.2 hF0'
        have KF := Hid.mk (list_any F wr hF64 (TabIs.below HT.out HB1.out))
        obtain ⟨t, l, htl⟩ : ∃ t l, bl F = t :: l := by
          cases h9 : bl F with
          | nil => exact absurd ((bl_nil6 F hF64).1 h9) hF0
          | cons t l => exact ⟨t, l, rfl⟩
        have HN : Hid (nxt cs L = some t) := Hid.mk (by rw [HH.out, htl]; rfl)
        rw [htl] at KF
        clear htl HH
        go_wp2_with fail
        refine KF.out.mono ?_
        rintro e w3 ⟨r3, m3, d3, rfl, hm3, ho3, hb3⟩
        have hm3p : 0 < m3 := by rw [← hm3]; simp
        obtain ⟨b3, off3, rfl, _, hc3⟩ := (At.owned ho3).some (by simp)
        have hcx : w3.cell? ⟨b3, off3, none⟩ = some (.int .i64 t) := hc3 0 (by simp)
        have HB3 := Hid.mk (HB1.out.trans (hb3.mono HB1.out.size))
        have hm3i : (0 : Int) < (m3 : Int) := by omega
        clear hc3 ho3 hb3 hm3 KF
        go_wp2
        refine bodyPost_ret (v := .tuple #[.int .i64 t, .bool true]) (by simp [results, Tryd.results46, go_sem]) rfl ⟨by rw [HN.out]; rfl, HB3.out⟩

set_option maxRecDepth 100000 in
set_option maxHeartbeats 2000000 in
theorem leastOrder_any (T G : Nat) (cs : List Nat) (w : World) (hT : T < 64) (h6 : Six cs) (hG : w.heap[G]? = some (.cells (cs.map encK).toArray 57 (0, 0))) (ht : TabB w) :
    Calls Tryd.prog 32 #[.int .u64 (T : Nat), .slice (some ⟨G, 0, none⟩) 6 6] w fun e w' => OdRet e w' w.heap.size (ordO cs 6 T).2 (ordO cs 6 T).1 ∧ Below w.heap.size w w' := by
  obtain ⟨i0, hi0, hx0, hx1, hx2⟩ := info_parts Tryd.infoInt
  have HG := Hid.mk hG
  have H6 := Hid.mk h6
  have HT := Hid.mk ht
  clear hG h6 ht
  go_enter Tryd.func32, Tryd.ntmps32
  go_wp2_with fail
  go_loopw [0, 6] (fun p q wr => ∃ (L f : Nat) (acc : List Int) (r : Option Addr) (m d : Nat), L < 64 ∧ p = .int .u64 (L : Nat) ∧ q = .slice r m d ∧ acc.length = m ∧ m + f = 6 ∧ (bl L).length ≤ f ∧ (ordO cs 6 T).1 = acc ++ (ordO cs f L).1 ∧ (ordO cs 6 T).2 = (ordO cs f L).2 ∧ wr.ownsRow w.heap.size 3 1 (.slice r m d) m (acc.map (.int .i64)) ∧ Below w.heap.size w wr) (fun p _ _ => (intOf p).toNat)
  case atStart => exact ⟨T, 6, [], none, 0, 0, hT, rfl, rfl, rfl, rfl, bl_len T, rfl, rfl, World.ownsRow_nil _ _ _ _, Below.refl _ _⟩
  case round =>
    obtain ⟨L, f, acc, r, m, d, hL, rfl, rfl, hacc, hmf, hLf, h1, h2, ho, hbw⟩ := hrel
    obtain ⟨wY, rfl⟩ : ∃ x, x = wr := ⟨_, rfl⟩
    by_cases hL0 : L = 0
    · subst hL0
      rw [ordO_zero] at h1 h2
      have HR : Hid (OdRet (.returned (.tuple #[.slice r m d, .bool true])) wY w.heap.size (ordO cs 6 T).2 (ordO cs 6 T).1) := Hid.mk (by
        rw [h1, h2]
        exact ⟨r, m, d, rfl, by simpa using hacc, by simpa using ho⟩)
      clear h1 h2 ho
      have e0 : (((0 : Nat) : Int) != 0) = false := by simp
      go_wp2
      refine bodyPost_ret (v := .tuple #[.slice r m d, .bool true]) (by simp [results, Tryd.results32, go_sem]) rfl ⟨HR.out, hbw⟩
    · have hLi : ((L : Int) != 0) = true := bne_iff_ne.2 (by omega)
      have hLe : ¬ (L : Int) = 0 := by omega
      have hbl : (bl L).length ≠ 0 := fun e => hL0 ((bl_nil6 L hL).1 (List.eq_nil_of_length_eq_zero e))
      obtain ⟨f', rfl⟩ : ∃ f', f = f' + 1 := ⟨f - 1, by omega⟩
      have KF := Hid.mk (leastFree_any L G cs wY hL H6.out ((hbw.block G (Array.getElem?_eq_some_iff.1 HG.out).1).trans HG.out) (TabIs.below HT.out hbw))
      have H1 := Hid.mk h1
      have H2 := Hid.mk h2
      have HO := Hid.mk ho
      have HB := Hid.mk hbw
      have HAC := Hid.mk hacc
      have hm6 : m ≤ 6 := by omega
      clear h1 h2 ho hbw hacc
      cases hn : nxt cs L with
      | none =>
        have HE := Hid.mk (ordO_none (f := f') hL0 hn)
        rw [hn] at KF
        go_wp2_with fail
        refine KF.out.mono ?_
        rintro e w2 ⟨rfl, hb2⟩
        have HR : Hid (OdRet (.returned (.tuple #[.slice none 0 0, .bool false])) w2 w.heap.size (ordO cs 6 T).2 (ordO cs 6 T).1) := Hid.mk (by
          rw [H1.out, H2.out, HE.out]
          exact ⟨none, 0, 0, rfl, rfl, World.ownsRow_nil _ _ _ _⟩)
        have HB2 := Hid.mk (HB.out.trans (hb2.mono HB.out.size))
        clear hb2 KF
        go_wp2
        refine bodyPost_ret (v := .tuple #[.slice none 0 0, .bool false]) (by simp [results, Tryd.results32, go_sem]) rfl ⟨HR.out, HB2.out⟩
      | some t =>
        have htm := nxt_mem hn
        have hti := bl_in htm
        obtain ⟨p, rfl⟩ : ∃ p : Nat, t = (p : Int) := ⟨t.toNat, by omega⟩
        have hp6 : p < 6 := by omega
        have HE := Hid.mk (ordO_some (f := f') hL0 hn)
        rw [Int.toNat_natCast] at HE
        rw [hn] at KF
        have hless := dfN_less L hL p hp6 htm
        have h2p := two_pow_lt (x := p) hp6
        have hpw := wrap_pow (x := (p : Int)) (by omega) (by omega)
        rw [Int.toNat_natCast] at hpw
        have han : bits .andNot .u64 (L : Int) ((2 ^ p : Nat) : Int) = ((dfN L (2 ^ p) : Nat) : Int) := u64_andNot_nat L (2 ^ p) (by omega) (by omega)
        obtain ⟨L', hL'⟩ : ∃ L', dfN L (2 ^ p) = L' := ⟨_, rfl⟩
        rw [hL'] at HE hless han
        have hL'64 : L' < 64 := by omega
        have HLS := Hid.mk hless
        obtain ⟨P, hP⟩ : ∃ P : Nat, 2 ^ p = P := ⟨_, rfl⟩
        have HPP := Hid.mk hP
        clear hn htm hti hless hL'
        go_wp2_with fail
        refine KF.out.mono ?_
        rintro e w2 ⟨rfl, hb2⟩
        have HO2 := Hid.mk (owns_below HO.out hb2)
        have HB2 := Hid.mk (HB.out.trans (hb2.mono HB.out.size))
        have zw : w.heap.size ≤ w2.heap.size := HB2.out.size
        clear hb2 KF HO HB hP
        simp only [Option.getD_some, Option.isSome_some]
        go_wp2_with (at_builtin; refine wpList_app_vals rfl (.tmp 19) (.tmp 21) 34 rfl w.heap.size 3 i0 (.int .i64 0) 1 8 Tryd.underlying34 hi0 hx0 hx1 hx2 rfl (by decide) (.slice r m d) m _ rfl (owns_below HO2.out ((Below.refl _ _).alloc (Nat.le_refl _) _)) (some ⟨w2.heap.size, 0, none⟩) 1 1 [.int .i64 (p : Int)] rfl rfl (fun ad he => by cases he; simpa using news_at w2 #[.int .i64 (p : Int)] 3) (by simp; rfl) (fun h => by cases h) (by unfold maxLen; omega) (by omega) (by simp; omega) ?_)
        intro r5 d5 w5 ho5 hg5 ht5
        have HB5 : Hid (Below w.heap.size w w5) := (HB2.out.alloc zw _).grown hg5 (by simp; omega) (fun j hj => (HO2.out.lt j hj).1)
        have HO5 : Hid (w5.ownsRow w.heap.size 3 1 (.slice r5 (m + 1) d5) (m + 1) ((acc ++ [(p : Int)]).map (.int .i64))) := Hid.mk (by rw [List.map_append]; exact ho5)
        clear ho5 hg5 ht5 HO2 HB2
        go_wp2
        go_roundw
        case rel =>
          refine ⟨L', f', acc ++ [(p : Int)], r5, m + 1, d5, hL'64, ?_, rfl, by simp [HAC.out], by omega, by have := HLS.out; omega, ?_, ?_, HO5.out, HB5.out⟩
          · first | rfl | (congr 1; done) | (congr 1; exact han)
          · rw [H1.out, HE.out]; simp
          · rw [H2.out, HE.out]
        case measure =>
          have := HLS.out
          simp [intOf]
          rw [show bits .andNot .u64 (L : Int) (2 ^ p) = (L' : Int) from by have h9 := han; push_cast at h9; exact h9]
          omega

set_option maxRecDepth 100000 in
set_option maxHeartbeats 1000000 in
theorem implSerialOrder (a : Option Addr) (n c : Nat) (xs : List TStep) (w : World) (hz : xs.length = n) (hn : n ≤ 1048576) (hnc : n ≤ c) (ha : At w a (flStep xs)) (ht : TabB w) :
    Calls Tryd.prog 16 #[.slice a n c] w fun e w' => SoRet e w' w.heap.size (soV xs) (gpB xs) (soL xs) ∧ Below w.heap.size w w' := by
  have KG := Hid.mk (implGoodSteps a n c xs w hz (by omega) ha)
  have HZ := Hid.mk hz
  have HA := Hid.mk ha
  clear hz ha
  go_enter Tryd.func16, Tryd.ntmps16
  go_wp2_with fail
  refine KG.out.mono ?_
  rintro e w1 ⟨rfl, hb1⟩
  clear KG
  cases hg : gpB xs with
  | false =>
    have HR : Hid (SoRet (.returned (.tuple #[.slice none 0 0, .bool false, .bool false])) w1 w.heap.size (soV xs) (gpB xs) (soL xs)) := Hid.mk (by
      have hv : soV xs = false := by unfold soV; rw [hg]; rfl
      rw [hg, hv, show soL xs = [] by unfold soL; rw [hv]; rfl]
      exact ⟨none, 0, 0, rfl, rfl, World.ownsRow_nil _ _ _ _⟩)
    go_wp2
    refine bodyPost_ret (v := .tuple #[.slice none 0 0, .bool false, .bool false]) (by simp [results, Tryd.results16, go_sem]) rfl ⟨HR.out, hb1⟩
  | true =>
    have KT := Hid.mk (txnsIn_any a n c xs w1 HZ.out hg (At.below HA.out hb1))
    have HSX : Hid (Six (cfL xs)) := Hid.mk (cfO_six (fun y hy => (gp_txn hg y hy).2) _)
    have HTX : Hid (txS xs < 64) := Hid.mk (txS_lt fun y hy => (gp_txn hg y hy).2)
    have HV : Hid (soV xs = (ordO (cfL xs) 6 (txS xs)).2) := Hid.mk (by unfold soV; rw [hg]; rfl)
    have HG := Hid.mk hg
    have HB1 := Hid.mk hb1
    clear hg hb1
    go_wp2_with fail
    refine KT.out.mono ?_
    rintro e w2 ⟨rfl, hb2⟩
    have HB2 := Hid.mk (HB1.out.trans (hb2.mono HB1.out.size))
    have KC := Hid.mk (clashesIn_any a n c xs w2 HZ.out hnc HG.out (At.below HA.out HB2.out))
    clear hb2 KT HB1
    go_wp2_with fail
    refine KC.out.mono ?_
    rintro e w3 ⟨⟨G, rfl, hwG, hi⟩, hb3⟩
    have HB3 := Hid.mk (HB2.out.trans (hb3.mono HB2.out.size))
    have KO := Hid.mk (leastOrder_any (txS xs) G (cfL xs) w3 HTX.out HSX.out hi (TabIs.below ht HB3.out))
    clear hb3 KC HB2 hi
    go_wp2_with fail
    refine KO.out.mono ?_
    rintro e w4 ⟨⟨r, m, d, rfl, hm, ho⟩, hb4⟩
    have HR : Hid (SoRet (.returned (.tuple #[.slice r m d, .bool (ordO (cfL xs) 6 (txS xs)).2, .bool true])) w4 w.heap.size (soV xs) (gpB xs) (soL xs)) := Hid.mk (by
      have e : soL xs = if (ordO (cfL xs) 6 (txS xs)).2 then (ordO (cfL xs) 6 (txS xs)).1 else [] := by unfold soL; rw [HV.out]
      rw [HG.out, HV.out, e]
      exact ⟨r, m, d, rfl, hm, owns_mono ho HB3.out.size⟩)
    have HB4 := Hid.mk (HB3.out.trans (hb4.mono HB3.out.size))
    clear KO ho hb4 hm
    go_wp2
    refine bodyPost_ret (v := .tuple #[.slice r m d, .bool (ordO (cfL xs) 6 (txS xs)).2, .bool true]) (by simp [results, Tryd.results16, go_sem]) rfl ⟨HR.out, HB4.out⟩

end Go.Proofs.YtociphdhkjoofaaDoor
