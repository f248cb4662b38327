/- Several texts of one proof, in build order: SvM, RepP, NwP, SvN, IxPr. -/
import Derived.Test.YtnfdncofobkjhaaM10
import Derived.Test.YtnfdncofobkjhaaM4
import Derived.Test.YtnfdncofobkjhaaM1
import Derived.Laws.MakeOwn
import Derived.Test.YtnfdncofobkjhaaM9

/- Contract of impl.takeSnapStep. -/
namespace Go.Proofs.Ytnfdncofobkjhaa
open Go.RowKit

def prAt (ps : List TProc) (k : Nat) : TProc := ps.getD k (0, 0, false)
theorem prAt_of {ps : List TProc} {k : Nat} (h : k < ps.length) : ps[k]? = some (prAt ps k) := by
  unfold prAt
  rw [List.getD_eq_getElem?_getD, List.getElem?_eq_getElem h]
  rfl
theorem wirAt_some {ws : List TWire} {k : Nat} (h : k < ws.length) : ws[k]? = some (wirAt ws k) := by
  unfold wirAt
  rw [List.getD_eq_getElem?_getD, List.getElem?_eq_getElem h]
  rfl
def inB (n : Nat) (i : Int) : Bool := decide (0 ≤ i) && decide (i < n)
/-- One step: whether it can be done, and what comes of it. -/
def stS (n : Nat) (kd f t v : Int) (ps : List TProc) (ws : List TWire) : Bool × List TProc × List TWire :=
  if kd = 1 then (if twoB n f t then (snF n f.toNat t.toNat v (prAt ps f.toNat) ws, snP f.toNat v (prAt ps f.toNat) ps, snW n f.toNat t.toNat v ws) else (false, ps, ws))
  else if kd = 2 then (if twoB n f t then tkF n f.toNat t.toNat (prAt ps t.toNat) ps ws else (false, ps, ws))
  else if kd = 3 then (if inB n f && !(prAt ps f.toNat).2.2 then ((svF n f.toNat n 0 ws).1, ps.set f.toNat ((prAt ps f.toNat).1, (prAt ps f.toNat).1, true), (svF n f.toNat n 0 ws).2) else (false, ps, ws))
  else (false, ps, ws)
theorem few_of {ws : List TWire} (h : WsOk ws) : Few ws := fun _ x hx => (h x (List.mem_of_getElem? hx)).1
theorem twoB_iff {n : Nat} {f t : Int} (h : twoB n f t = true) : ∃ F T : Nat, f = F ∧ t = T ∧ F < n ∧ T < n ∧ F ≠ T := by
  unfold twoB at h
  simp only [Bool.and_eq_true, decide_eq_true_eq] at h
  exact ⟨f.toNat, t.toNat, by omega, by omega, by omega, by omega, by omega⟩

set_option maxRecDepth 100000 in
set_option maxHeartbeats 8000000 in
theorem takeSnapStep_any (lo : Nat → Prop) (g0 n0 c0 g1 n1 c1 : Nat) (kd f t v : Int) (ps : List TProc) (ws : List TWire) (cells0 cells1 : List Value) (G : Nat → Nat → Prop) (w : World) (hn : n0 ≤ 4) (h1 : n1 = n0 * n0) (hps : PsOk ps) (hws : WsOk ws)
    (h : SV w lo g0 n0 c0 g1 n1 c1 ps ws cells0 cells1 G) :
    Calls Try.prog 37 #[.agg #[.slice (some ⟨g0, 0, none⟩) n0 c0, .slice (some ⟨g1, 0, none⟩) n1 c1], .agg #[.int .i64 kd, .int .i64 f, .int .i64 t, .int .i64 v]] w fun e w' => e = .returned (.bool (stS n0 kd f t v ps ws).1) ∧ Off lo w w' ∧
      ((stS n0 kd f t v ps ws).1 = true → ∃ cells0 cells1 G, SV w' lo g0 n0 c0 g1 n1 c1 (stS n0 kd f t v ps ws).2.1 (stS n0 kd f t v ps ws).2.2 cells0 cells1 G) := by
  obtain ⟨W, hW⟩ : ∃ W, W = (w.alloc (.cells #[.slice (some ⟨g0, 0, none⟩) n0 c0, .slice (some ⟨g1, 0, none⟩) n1 c1] 32)).alloc (.cells #[.int .i64 kd, .int .i64 f, .int .i64 t, .int .i64 v] 36) := ⟨_, rfl⟩
  have hb : Below w.heap.size w W := by rw [hW]; exact ((Below.refl _ _).alloc (Nat.le_refl _) _).alloc (by simp) _
  have zW : W.heap.size = w.heap.size + 1 + 1 := by rw [hW]; simp
  have bb : W.heap[w.heap.size]? = some (.cells #[.slice (some ⟨g0, 0, none⟩) n0 c0, .slice (some ⟨g1, 0, none⟩) n1 c1] 32 (0, 0)) := by rw [hW]; exact blk_alloc (heap_alloc_new w _) _
  have bx : W.heap[w.heap.size + 1]? = some (.cells #[.int .i64 kd, .int .i64 f, .int .i64 t, .int .i64 v] 36 (0, 0)) := by
    rw [hW]
    have q := heap_alloc_new (w.alloc (.cells #[.slice (some ⟨g0, 0, none⟩) n0 c0, .slice (some ⟨g1, 0, none⟩) n1 c1] 32)) (.cells #[.int .i64 kd, .int .i64 f, .int .i64 t, .int .i64 v] 36)
    simpa only [World.size_alloc] using q
  have q0 := blk_cell bb 0 (v := .slice (some ⟨g0, 0, none⟩) n0 c0) rfl
  have q1 := blk_cell bb 1 (v := .slice (some ⟨g1, 0, none⟩) n1 c1) rfl
  have x0 := blk_cell bx 0 (v := .int .i64 kd) rfl
  have x1 := blk_cell bx 1 (v := .int .i64 f) rfl
  have x2 := blk_cell bx 2 (v := .int .i64 t) rfl
  have x3 := blk_cell bx 3 (v := .int .i64 v) rfl
  have l0 := h.l0
  have HBW := Hid.mk (show Off lo w W from Off.below hb)
  have HSV := Hid.mk (h.below hb)
  have HFW := Hid.mk (few_of hws)
  have HPS := Hid.mk hps
  have HWS := Hid.mk hws
  have hl0 : ps.length = n0 := h.pr.len
  have hl1 : ws.length = n1 := h.wi.len
  have HL0 := Hid.mk hl0
  have HL1 := Hid.mk hl1
  have HN1 := Hid.mk h1
  clear hps hws h l0 hl0 hl1 hb h1
  by_cases e1 : kd = 1
  · subst e1
    have hst : stS n0 1 f t v ps ws = (if twoB n0 f t then (snF n0 f.toNat t.toNat v (prAt ps f.toNat) ws, snP f.toNat v (prAt ps f.toNat) ps, snW n0 f.toNat t.toNat v ws) else (false, ps, ws)) := rfl
    rw [hst]
    clear hst
    have KI := Hid.mk (areTwoProcs_any (some ⟨g0, 0, none⟩) n0 c0 (some ⟨g1, 0, none⟩) n1 c1 f t W)
    obtain ⟨BB, hBB⟩ : ∃ b, twoB n0 f t = b := ⟨_, rfl⟩
    rw [hBB] at KI ⊢
    cases BB with
    | false =>
      simp only [Bool.false_eq_true, if_false]
      go_enter Try.func37, Try.ntmps37
      go_upto_region 1 with fail
      rw [← hW]
      clear hW
      go_wp2_with fail
      refine KI.out.mono ?_
      rintro e w1 ⟨rfl, hb1⟩
      have HB1 := Hid.mk (HBW.out.trans (Off.below hb1))
      clear KI hb1 HSV q0 q1 x0 x1 x2 x3
      go_wp2
      go_ret
      first | exact ⟨rfl, HB1.out, fun h => by cases h⟩ | exact ⟨rfl, HB1.out⟩ | exact HB1.out
    | true =>
      obtain ⟨F, T, rfl, rfl, hF, hT, hne⟩ := twoB_iff hBB
      rw [Int.toNat_natCast, Int.toNat_natCast]
      simp only [if_true]
      have hpF := prAt_of (ps := ps) (k := F) (by rw [HL0.out]; exact hF)
      have hpT := prAt_of (ps := ps) (k := T) (by rw [HL0.out]; exact hT)
      have hFk : F * n0 + T < n1 := by rw [HN1.out]; exact idx_lt hF hT
      have hyk := wirAt_some (ws := ws) (k := F * n0 + T) (by rw [HL1.out]; exact hFk)
      have hoF := HPS.out _ (List.mem_of_getElem? hpF)
      have hoT := HPS.out _ (List.mem_of_getElem? hpT)
      have hoy := HWS.out _ (List.mem_of_getElem? hyk)
      have KS := Hid.mk (fun u (hu : Below W.heap.size W u) => sendAmount_any lo g0 n0 c0 g1 n1 c1 F T 1 v ps ws cells0 cells1 G u (prAt ps F) hn HN1.out hF hT hpF ⟨hoF.1, hoF.2.1⟩ HFW.out (HSV.out.below hu))
      obtain ⟨OK, hX⟩ : ∃ x, snF n0 F T v (prAt ps F) ws = x := ⟨_, rfl⟩
      obtain ⟨PS, hXP⟩ : ∃ x, snP F v (prAt ps F) ps = x := ⟨_, rfl⟩
      obtain ⟨WS, hXW⟩ : ∃ x, snW n0 F T v ws = x := ⟨_, rfl⟩
      rw [hX, hXP, hXW] at KS ⊢
      clear hXP hXW
      clear hX hBB hpF hpT hyk hoF hoT hoy hFk hne
      (try simp only)
      go_enter Try.func37, Try.ntmps37
      go_upto_region 1 with fail
      rw [← hW]
      clear hW
      go_wp2_with fail
      refine KI.out.mono ?_
      rintro e w1 ⟨rfl, hb1⟩
      have bb := blk_below bb hb1
      have bx := blk_below bx hb1
      have z1 := hb1.size
      have HB1 := Hid.mk (HBW.out.trans (Off.below hb1))
      have HBB1 := Hid.mk hb1
      clear KI hb1 HSV q0 q1 x0 x1 x2 x3
      have q0 := blk_cell bb 0 (v := .slice (some ⟨g0, 0, none⟩) n0 c0) rfl
      have q1 := blk_cell bb 1 (v := .slice (some ⟨g1, 0, none⟩) n1 c1) rfl
      have x0 := blk_cell bx 0 (v := .int .i64 1) rfl
      have x1 := blk_cell bx 1 (v := .int .i64 F) rfl
      have x2 := blk_cell bx 2 (v := .int .i64 T) rfl
      have x3 := blk_cell bx 3 (v := .int .i64 v) rfl
      go_wp2_with fail
      refine (KS.out _ HBB1.out).mono ?_
      rintro e w2 ⟨rfl, hb2, hsv2⟩
      have HB2 := Hid.mk (HB1.out.trans hb2)
      have HS2 := Hid.mk hsv2
      clear KS hb2 hsv2 bb bx q0 q1 x0 x1 x2 x3 HBB1
      cases OK
      · go_wp2
        go_ret
        exact ⟨rfl, HB2.out, fun h => by cases h⟩
      · go_wp2
        go_ret
        refine ⟨rfl, HB2.out, ?_⟩
        first | exact HS2.out rfl | exact HS2.out trivial
  by_cases e2 : kd = 2
  · subst e2
    have hst : stS n0 2 f t v ps ws = (if twoB n0 f t then tkF n0 f.toNat t.toNat (prAt ps t.toNat) ps ws else (false, ps, ws)) := rfl
    rw [hst]
    clear hst
    have KI := Hid.mk (areTwoProcs_any (some ⟨g0, 0, none⟩) n0 c0 (some ⟨g1, 0, none⟩) n1 c1 f t W)
    obtain ⟨BB, hBB⟩ : ∃ b, twoB n0 f t = b := ⟨_, rfl⟩
    rw [hBB] at KI ⊢
    cases BB with
    | false =>
      simp only [Bool.false_eq_true, if_false]
      go_enter Try.func37, Try.ntmps37
      go_upto_region 1 with fail
      rw [← hW]
      clear hW
      go_wp2_with fail
      refine KI.out.mono ?_
      rintro e w1 ⟨rfl, hb1⟩
      have HB1 := Hid.mk (HBW.out.trans (Off.below hb1))
      clear KI hb1 HSV q0 q1 x0 x1 x2 x3
      go_wp2
      go_ret
      first | exact ⟨rfl, HB1.out, fun h => by cases h⟩ | exact ⟨rfl, HB1.out⟩ | exact HB1.out
    | true =>
      obtain ⟨F, T, rfl, rfl, hF, hT, hne⟩ := twoB_iff hBB
      rw [Int.toNat_natCast, Int.toNat_natCast]
      simp only [if_true]
      have hpF := prAt_of (ps := ps) (k := F) (by rw [HL0.out]; exact hF)
      have hpT := prAt_of (ps := ps) (k := T) (by rw [HL0.out]; exact hT)
      have hFk : F * n0 + T < n1 := by rw [HN1.out]; exact idx_lt hF hT
      have hyk := wirAt_some (ws := ws) (k := F * n0 + T) (by rw [HL1.out]; exact hFk)
      have hoF := HPS.out _ (List.mem_of_getElem? hpF)
      have hoT := HPS.out _ (List.mem_of_getElem? hpT)
      have hoy := HWS.out _ (List.mem_of_getElem? hyk)
      have KS := Hid.mk (fun u (hu : Below W.heap.size W u) => takeFirst_any lo g0 n0 c0 g1 n1 c1 F T 2 v ps ws cells0 cells1 G u (prAt ps T) (wirAt ws (F * n0 + T)) hn HN1.out hF hT hpT ⟨hoT.1, hoT.2.1⟩ HFW.out hyk hoy.2.2.2.2.2.2.1 (by have := hoy.2.1; omega) (HSV.out.below hu))
      obtain ⟨⟨OK, PS, WS⟩, hX⟩ : ∃ x, tkF n0 F T (prAt ps T) ps ws = x := ⟨_, rfl⟩
      rw [hX] at KS ⊢
      clear hX hBB hpF hpT hyk hoF hoT hoy hFk hne
      (try simp only)
      go_enter Try.func37, Try.ntmps37
      go_upto_region 1 with fail
      rw [← hW]
      clear hW
      go_wp2_with fail
      refine KI.out.mono ?_
      rintro e w1 ⟨rfl, hb1⟩
      have bb := blk_below bb hb1
      have bx := blk_below bx hb1
      have z1 := hb1.size
      have HB1 := Hid.mk (HBW.out.trans (Off.below hb1))
      have HBB1 := Hid.mk hb1
      clear KI hb1 HSV q0 q1 x0 x1 x2 x3
      have q0 := blk_cell bb 0 (v := .slice (some ⟨g0, 0, none⟩) n0 c0) rfl
      have q1 := blk_cell bb 1 (v := .slice (some ⟨g1, 0, none⟩) n1 c1) rfl
      have x0 := blk_cell bx 0 (v := .int .i64 2) rfl
      have x1 := blk_cell bx 1 (v := .int .i64 F) rfl
      have x2 := blk_cell bx 2 (v := .int .i64 T) rfl
      have x3 := blk_cell bx 3 (v := .int .i64 v) rfl
      go_wp2_with fail
      refine (KS.out _ HBB1.out).mono ?_
      rintro e w2 ⟨rfl, hb2, hsv2⟩
      have HB2 := Hid.mk (HB1.out.trans hb2)
      have HS2 := Hid.mk hsv2
      clear KS hb2 hsv2 bb bx q0 q1 x0 x1 x2 x3 HBB1
      cases OK
      · go_wp2
        go_ret
        exact ⟨rfl, HB2.out, fun h => by cases h⟩
      · go_wp2
        go_ret
        refine ⟨rfl, HB2.out, ?_⟩
        first | exact HS2.out rfl | exact HS2.out trivial
  by_cases e3 : kd = 3
  · subst e3
    have hst : stS n0 3 f t v ps ws = (if inB n0 f && !(prAt ps f.toNat).2.2 then ((svF n0 f.toNat n0 0 ws).1, ps.set f.toNat ((prAt ps f.toNat).1, (prAt ps f.toNat).1, true), (svF n0 f.toNat n0 0 ws).2) else (false, ps, ws)) := rfl
    rw [hst]
    clear hst
    have KI := Hid.mk (isProc_any (some ⟨g0, 0, none⟩) n0 c0 (some ⟨g1, 0, none⟩) n1 c1 f W)
    rw [show (decide (0 ≤ f) && decide (f < (n0 : Int))) = inB n0 f from rfl] at KI
    obtain ⟨BB, hBB⟩ : ∃ b, inB n0 f = b := ⟨_, rfl⟩
    rw [hBB] at KI ⊢
    cases BB with
    | false =>
      simp only [Bool.false_and, Bool.false_eq_true, if_false]
      go_enter Try.func37, Try.ntmps37
      go_upto_region 1 with fail
      rw [← hW]
      clear hW
      go_wp2_with fail
      refine KI.out.mono ?_
      rintro e w1 ⟨rfl, hb1⟩
      have HB1 := Hid.mk (HBW.out.trans (Off.below hb1))
      clear KI hb1 HSV q0 q1 x0 x1 x2 x3
      go_wp2
      go_ret
      first | exact ⟨rfl, HB1.out, fun h => by cases h⟩ | exact ⟨rfl, HB1.out⟩ | exact HB1.out
    | true =>
      have hin : 0 ≤ f ∧ f < (n0 : Int) := by
        unfold inB at hBB
        simpa only [Bool.and_eq_true, decide_eq_true_eq] using hBB
      obtain ⟨F, rfl⟩ : ∃ F : Nat, f = F := ⟨f.toNat, by omega⟩
      rw [Int.toNat_natCast]
      have hF : F < n0 := by omega
      have hp := prAt_of (ps := ps) (k := F) (by rw [HL0.out]; exact hF)
      obtain ⟨⟨a, b, dn⟩, hpp⟩ : ∃ p, prAt ps F = p := ⟨_, rfl⟩
      rw [hpp] at hp ⊢
      have hFi : (F : Int) < (n0 : Int) := by omega
      have HP := Hid.mk hp
      clear hBB hin hpp hp
      cases dn with
      | true =>
        simp only [Bool.not_true, Bool.and_false, Bool.false_eq_true, if_false]
        go_enter Try.func37, Try.ntmps37
        go_upto_region 1 with fail
        rw [← hW]
        clear hW
        go_wp2_with fail
        refine KI.out.mono ?_
        rintro e w1 ⟨rfl, hb1⟩
        have bb := blk_below bb hb1
        have bx := blk_below bx hb1
        have z1 := hb1.size
        have HB1 := Hid.mk (HBW.out.trans (Off.below hb1))
        have HBB1 := Hid.mk hb1
        obtain ⟨_, _, _, _, c2⟩ := (HSV.out.below hb1).proc HP.out
        clear KI hb1 q0 q1 x0 x1 x2 x3
        have q0 := blk_cell bb 0 (v := .slice (some ⟨g0, 0, none⟩) n0 c0) rfl
        have q1 := blk_cell bb 1 (v := .slice (some ⟨g1, 0, none⟩) n1 c1) rfl
        have x0 := blk_cell bx 0 (v := .int .i64 3) rfl
        have x1 := blk_cell bx 1 (v := .int .i64 F) rfl
        have x2 := blk_cell bx 2 (v := .int .i64 t) rfl
        have x3 := blk_cell bx 3 (v := .int .i64 v) rfl
        go_wp2
        go_ret
        first | exact ⟨rfl, HB1.out, fun h => by cases h⟩ | exact ⟨rfl, HB1.out⟩ | exact HB1.out
      | false =>
        have KS := Hid.mk (fun u (hu : Below W.heap.size W u) => saveProc_any lo g0 n0 c0 g1 n1 c1 F ps ws cells0 cells1 G u (a, b, false) hn HN1.out hF HP.out HFW.out (HSV.out.below hu))
        obtain ⟨OK, hok⟩ : ∃ x, (svF n0 F n0 0 ws).1 = x := ⟨_, rfl⟩
        obtain ⟨WS, hWS⟩ : ∃ x, (svF n0 F n0 0 ws).2 = x := ⟨_, rfl⟩
        simp only [Bool.not_false, Bool.and_true, if_true]
        rw [hok, hWS] at KS ⊢
        clear hok hWS
        go_enter Try.func37, Try.ntmps37
        go_upto_region 1 with fail
        rw [← hW]
        clear hW
        go_wp2_with fail
        refine KI.out.mono ?_
        rintro e w1 ⟨rfl, hb1⟩
        have bb := blk_below bb hb1
        have bx := blk_below bx hb1
        have z1 := hb1.size
        have HB1 := Hid.mk (HBW.out.trans (Off.below hb1))
        have HBB1 := Hid.mk hb1
        obtain ⟨_, _, _, _, c2⟩ := (HSV.out.below hb1).proc HP.out
        clear KI hb1 q0 q1 x0 x1 x2 x3
        have q0 := blk_cell bb 0 (v := .slice (some ⟨g0, 0, none⟩) n0 c0) rfl
        have q1 := blk_cell bb 1 (v := .slice (some ⟨g1, 0, none⟩) n1 c1) rfl
        have x0 := blk_cell bx 0 (v := .int .i64 3) rfl
        have x1 := blk_cell bx 1 (v := .int .i64 F) rfl
        have x2 := blk_cell bx 2 (v := .int .i64 t) rfl
        have x3 := blk_cell bx 3 (v := .int .i64 v) rfl
        go_wp2_with fail
        refine (KS.out _ HBB1.out).mono ?_
        rintro e w2 ⟨rfl, hb2, hsv2⟩
        have HB2 := Hid.mk (HB1.out.trans hb2)
        have HS2 := Hid.mk hsv2
        clear KS hb2 hsv2 bb bx q0 q1 x0 x1 x2 x3 c2 HBB1
        cases OK
        · go_wp2
          go_ret
          exact ⟨rfl, HB2.out, fun h => by cases h⟩
        · go_wp2
          go_ret
          refine ⟨rfl, HB2.out, ?_⟩
          first | exact HS2.out rfl | exact HS2.out trivial
  have hst : stS n0 kd f t v ps ws = (false, ps, ws) := by unfold stS; rw [if_neg e1, if_neg e2, if_neg e3]
  rw [hst]
  have n1 : ((kd : Int) == 1) = false := beq_eq_false_iff_ne.2 e1
  have n2 : ((kd : Int) == 2) = false := beq_eq_false_iff_ne.2 e2
  have n3 : ((kd : Int) == 3) = false := beq_eq_false_iff_ne.2 e3
  clear e1 e2 e3 hst
  go_enter Try.func37, Try.ntmps37
  go_upto_region 1 with fail
  rw [← hW]
  clear hW
  go_wp2
  go_ret
  first | exact ⟨rfl, HBW.out, fun h => by cases h⟩ | exact ⟨rfl, HBW.out⟩ | exact HBW.out

end Go.Proofs.Ytnfdncofobkjhaa

/- One more thing at a slice's end. -/
namespace Go.Proofs.Ytnfdncofobkjhaa
open Go.RowKit

section
variable {α : Type} {A : Rep α} {w w2 w4 : World} {F H F' : Nat → Prop} {e : TypeId} {a a' : Option Addr} {n c c' : Nat} {xs : List α} {cells vs : List Value} {G : Nat → Nat → Prop} {x : α}

theorem sub_append_left {cells vs : List Value} {o k : Nat} (h : o + k ≤ cells.length) : sub (cells ++ vs) o k = sub cells o k := by
  unfold sub
  rw [List.drop_append_of_le_length (by omega), List.take_append_of_le_length (by simp; omega)]
theorem sub_append_right {cells vs : List Value} {k : Nat} (h : vs.length = k) : sub (cells ++ vs) cells.length k = vs := by
  unfold sub
  rw [List.drop_left, ← h, List.take_length]

/-- Behind 'append(l, x)': the slice lies in its old block, or in a new one. -/
theorem Laid.push (h : Laid A w F e a n c xs cells G n) (hF : ∀ b, F b → b < w.heap.size) (hb : Below w.heap.size w w2) (ho : A.Own w2 H vs x) (hH : ∀ b, H b → w.heap.size ≤ b ∧ b < w2.heap.size)
    (hg : ∀ b, b < w2.heap.size → (Value.slice a n c).ownBlock ≠ some b → w4.heap[b]? = w2.heap[b]?) (hown : w4.ownsRow 0 e A.k (.slice a' (n + 1) c') (n + 1) (cells ++ vs))
    (hat : (Value.slice a' (n + 1) c').ownBlock = (Value.slice a n c).ownBlock ∨ ∀ b, (Value.slice a' (n + 1) c').ownBlock = some b → w2.heap.size ≤ b) (hbig : n + 1 ≤ 9223372036854775807)
    (hF1 : ∀ b, F b → F' b) (hF2 : ∀ b, H b → F' b) (hF3 : ∀ b, (Value.slice a' (n + 1) c').ownBlock = some b → F' b) :
    Laid A w4 F' e a' (n + 1) c' (xs ++ [x]) (cells ++ vs) (fun i => if i = n then H else G i) (n + 1) := by
  have hl := A.ownLen ho
  have hcl : cells.length = n * A.k := h.outer.1
  have hz := hb.size
  have hB : ∀ i b, i < n → G i b → b < w.heap.size ∧ (Value.slice a n c).ownBlock ≠ some b := fun i b hi hg' => ⟨hF b (h.rowF i b hi hg').1, (h.rowF i b hi hg').2⟩
  have hO : ∀ b, (Value.slice a n c).ownBlock = some b → b < w.heap.size := fun b hb' => hF b (h.outerF b hb')
  refine ⟨by simp [h.len], hbig, hown, hF3, fun i y hi hy => ?_, fun i b hi hb' => ?_, fun i j b hi hj hij hb' => ?_⟩
  · by_cases ei : i = n
    · subst ei
      simp only [if_true]
      obtain rfl : x = y := by
        rw [List.getElem?_append_right (by rw [h.len]; exact Nat.le_refl _)] at hy
        simpa [h.len] using hy
      have := sub_append_right (cells := cells) hl
      rw [hcl] at this
      rw [this]
      exact A.frame ho (fun b hb' _ => hg b (hH b hb').2 (fun e' => by have := hO b e'; have := (hH b hb').1; omega))
    · simp only [if_neg ei]
      have hi' : i < n := by omega
      rw [List.getElem?_append_left (by rw [h.len]; exact hi')] at hy
      rw [sub_append_left (by rw [hcl]; exact at_mul hi')]
      exact A.frame (A.ownBelow (h.row i y hi' hy) hb) (fun b hb' _ => hg b (by have := (hB i b hi' hb').1; omega) (hB i b hi' hb').2)
  · by_cases ei : i = n
    · subst ei
      simp only [if_true] at hb'
      refine ⟨hF2 b hb', fun e' => ?_⟩
      have h1 := hH b hb'
      rcases hat with h2 | h2
      · rw [h2] at e'
        have := hO b e'
        omega
      · have := h2 b e'
        omega
    · simp only [if_neg ei] at hb'
      have h1 := hB i b (by omega) hb'
      refine ⟨hF1 b (h.rowF i b (by omega) hb').1, fun e' => ?_⟩
      rcases hat with h2 | h2
      · rw [h2] at e'; exact h1.2 e'
      · have := h2 b e'
        omega
  · by_cases ei : i = n
    · subst ei
      simp only [if_true] at hb'
      simp only [if_neg (Ne.symm hij)]
      intro e'
      have := (hB j b (by omega) e').1
      have := (hH b hb').1
      omega
    · simp only [if_neg ei] at hb'
      by_cases ej : j = n
      · simp only [if_pos ej]
        intro e'
        have := (hB i b (by omega) hb').1
        have := (hH b e').1
        omega
      · simp only [if_neg ej]
        exact h.apart i j b (by omega) (by omega) hij hb'

/-- A slice of nothing. -/
theorem Laid.none (A : Rep α) (w : World) (F : Nat → Prop) (e : TypeId) : Laid A w F e none 0 0 [] [] (fun _ _ => False) 0 :=
  ⟨rfl, by omega, World.ownsRow_nil _ _ _ _, fun b hb => (by cases hb), fun i x h => by omega, fun i b h => by omega, fun i j b h => by omega⟩
end

end Go.Proofs.Ytnfdncofobkjhaa

/- Plain: a new snap; rows of processes and wires that hold nothing yet. -/
namespace Go.Proofs.Ytnfdncofobkjhaa
open Go.RowKit

theorem rows_own {α : Type} {A : Rep α} {w : World} {base : Nat} {e : TypeId} {a : Option Addr} {n c : Nat} {xs : List α} {cells : List Value} (hz : xs.length = n) (hn : n ≤ 9223372036854775807) (ho : w.ownsRow base e A.k (.slice a n c) n cells)
    (hr : ∀ i x, xs[i]? = some x → A.Own w (fun _ => False) (sub cells (i * A.k) A.k) x) : (Rep.slice e A).Own w (From base w.heap.size) [.slice a n c] xs :=
  ⟨a, n, c, cells, fun _ _ => False, rfl, hz, hn, owns_mono ho (Nat.zero_le _), fun b hb => ho.lt b hb, fun i x _ hx => hr i x hx, fun _ _ _ hb => hb.elim, fun _ _ _ _ _ _ hb => hb.elim⟩
theorem sub3 {cells : List Value} {o : Nat} {x y z : Value} (h0 : cells[o]? = some x) (h1 : cells[o + 1]? = some y) (h2 : cells[o + 2]? = some z) : sub cells o 3 = [x, y, z] := by
  apply List.ext_getElem?
  intro j
  match j with
  | 0 => rw [sub_at (by omega)]; exact h0
  | 1 => rw [sub_at (by omega)]; exact h1
  | 2 => rw [sub_at (by omega)]; exact h2
  | j + 3 => rw [List.getElem?_eq_none (by simp [sub]; omega)]; simp

/-- Cells of processes of these amounts, nothing Saved, none Done. -/
def PzA (cells : List Value) (xs : List Int) : Prop := cells.length = xs.length * 3 ∧ ∀ i a, xs[i]? = some a → cells[i * 3]? = some (.int .i64 a) ∧ cells[i * 3 + 1]? = some (.int .i64 0) ∧ cells[i * 3 + 2]? = some (.bool false)
def WzA (cells : List Value) (n : Nat) : Prop := cells.length = n * 3 ∧ ∀ i, i < n → cells[i * 3]? = some (.slice none 0 0) ∧ cells[i * 3 + 1]? = some (.slice none 0 0) ∧ cells[i * 3 + 2]? = some (.bool false)
theorem PzA.nil : PzA [] [] := ⟨rfl, fun i a h => by simp at h⟩
theorem PzA.push {cells : List Value} {xs : List Int} (h : PzA cells xs) (a : Int) : PzA (cells ++ [.int .i64 a, .int .i64 0, .bool false]) (xs ++ [a]) := by
  refine ⟨by simp [h.1]; omega, fun i b hb => ?_⟩
  have hl := h.1
  by_cases hi : i < xs.length
  · rw [List.getElem?_append_left hi] at hb
    obtain ⟨h0, h1, h2⟩ := h.2 i b hb
    rw [List.getElem?_append_left (by omega), List.getElem?_append_left (by omega), List.getElem?_append_left (by omega)]
    exact ⟨h0, h1, h2⟩
  · rw [List.getElem?_append_right (by omega)] at hb
    have hi2 : i = xs.length := by
      have := (List.getElem?_eq_some_iff.1 hb).1
      simp at this
      omega
    subst hi2
    obtain rfl : a = b := by simpa using hb
    rw [List.getElem?_append_right (by omega), List.getElem?_append_right (by omega), List.getElem?_append_right (by omega), hl]
    refine ⟨?_, ?_, ?_⟩
    · rw [Nat.sub_self]; rfl
    · rw [show xs.length * 3 + 1 - xs.length * 3 = 1 by omega]; rfl
    · rw [show xs.length * 3 + 2 - xs.length * 3 = 2 by omega]; rfl
theorem PzA.set {cells : List Value} {xs : List Int} (h : PzA cells xs) {k : Nat} (hk : k < xs.length) (a : Int) : PzA (cells.set (k * 3) (.int .i64 a)) (xs.set k a) := by
  refine ⟨by simp [h.1], fun i b hb => ?_⟩
  have hl := h.1
  by_cases e : i = k
  · subst e
    rw [List.getElem?_set_self hk] at hb
    cases hb
    obtain ⟨_, h1, h2⟩ := h.2 i _ (List.getElem?_eq_getElem hk)
    rw [List.getElem?_set_self (by omega), List.getElem?_set_ne (by omega), List.getElem?_set_ne (by omega)]
    exact ⟨rfl, h1, h2⟩
  · rw [List.getElem?_set_ne (Ne.symm e)] at hb
    rw [List.getElem?_set_ne (by omega), List.getElem?_set_ne (by omega), List.getElem?_set_ne (by omega)]
    exact h.2 i b hb
theorem made_at {z : Array Value} {n i : Nat} (hi : i < n) : (madeCells z n).toList[i]? = some (z[i % z.size]!) := by
  simp [madeCells, hi]
theorem mod3 (i : Nat) : i * 3 % 3 = 0 ∧ (i * 3 + 1) % 3 = 1 ∧ (i * 3 + 2) % 3 = 2 := by omega
theorem PzA.made (n : Nat) : PzA (madeCells #[.int .i64 0, .int .i64 0, .bool false] (n * 3)).toList (List.replicate n 0) := by
  refine ⟨by simp [madeCells], fun i a h => ?_⟩
  have hi : i < n := by have := (List.getElem?_eq_some_iff.1 h).1; simpa using this
  obtain rfl : (0 : Int) = a := by
    rw [List.getElem?_replicate] at h
    simpa [hi] using h
  rw [made_at (by omega), made_at (by omega), made_at (by omega)]
  obtain ⟨h0, h1, h2⟩ := mod3 i
  simp only [List.size_toArray, List.length_cons, List.length_nil, Nat.reduceAdd, h0, h1, h2]
  exact ⟨rfl, rfl, rfl⟩
theorem WzA.made (n : Nat) : WzA (madeCells #[.slice none 0 0, .slice none 0 0, .bool false] (n * 3)).toList n := by
  refine ⟨by simp [madeCells], fun i hi => ?_⟩
  rw [made_at (by omega), made_at (by omega), made_at (by omega)]
  obtain ⟨h0, h1, h2⟩ := mod3 i
  simp only [List.size_toArray, List.length_cons, List.length_nil, Nat.reduceAdd, h0, h1, h2]
  exact ⟨rfl, rfl, rfl⟩

abbrev psN (zs : List Int) : List TProc := zs.map (fun a => (a, 0, false))
abbrev wsN (m : Nat) : List TWire := List.replicate m ([], [], false)
theorem RProcs.of_cells {w : World} {base : Nat} {a : Option Addr} {n c : Nat} {xs : List Int} {cells : List Value} (hz : xs.length = n) (hn : n ≤ 9223372036854775807) (ho : w.ownsRow base 74 3 (.slice a n c) n cells) (h : PzA cells xs) :
    RProcs.Own w (From base w.heap.size) [.slice a n c] (psN xs) :=
  rows_own (A := RProc) (by simp [psN, hz]) hn ho (fun i x hx => by
    obtain ⟨a, ha, rfl⟩ : ∃ a, xs[i]? = some a ∧ (a, 0, false) = x := by simpa [psN] using hx
    obtain ⟨h0, h1, h2⟩ := h.2 i a ha
    show RProc.Own w _ (sub cells (i * 3) 3) (a, 0, false)
    rw [sub3 h0 h1 h2]
    exact RProc.own_mk)
theorem RInts.nil (w : World) (F : Nat → Prop) : RInts.Own w F [.slice none 0 0] [] := RInts.own_iff.2 ⟨rfl, by omega, World.ownsRow_nil _ _ _ _, fun b hb => by cases hb⟩
theorem RWires.of_cells {w : World} {base : Nat} {a : Option Addr} {n c : Nat} {cells : List Value} (hn : n ≤ 9223372036854775807) (ho : w.ownsRow base 76 3 (.slice a n c) n cells) (h : WzA cells n) :
    RWires.Own w (From base w.heap.size) [.slice a n c] (wsN n) :=
  rows_own (A := RWire) (by simp [wsN]) hn ho (fun i x hx => by
    have hi : i < n := by have := (List.getElem?_eq_some_iff.1 hx).1; simpa using this
    obtain rfl : ([], [], false) = x := by
      rw [List.getElem?_replicate] at hx
      simpa [hi] using hx
    obtain ⟨h0, h1, h2⟩ := h.2 i hi
    show RWire.Own w _ (sub cells (i * 3) 3) ([], [], false)
    rw [sub3 h0 h1 h2]
    exact RWire.own_mk (F0 := fun _ => False) (F1 := fun _ => False) (RInts.nil _ _) (RInts.nil _ _) (fun _ h => h) (fun _ h => h) (fun _ h => h.elim))

def newS (zs : List Int) : TSnap := (psN zs, wsN (zs.length * zs.length))
/-- A snap and a truth value that are told, in memory that the call made. -/
def SnapRet (e : Ending) (w' : World) (lo : Nat) (ok : Bool) (x : TSnap) : Prop :=
  ∃ r0 m0 d0 r1 m1 d1, e = .returned (.tuple #[.agg #[.slice r0 m0 d0, .slice r1 m1 d1], .bool ok]) ∧ RSnap.Own w' (From lo w'.heap.size) [.slice r0 m0 d0, .slice r1 m1 d1] x
theorem RSnap.nil (w : World) (F : Nat → Prop) : RSnap.Own w F [.slice none 0 0, .slice none 0 0] ([], []) :=
  RSnap.own_mk (F0 := fun _ => False) (F1 := fun _ => False) ⟨none, 0, 0, [], _, rfl, Laid.none _ _ _ _⟩ ⟨none, 0, 0, [], _, rfl, Laid.none _ _ _ _⟩ (fun _ h => h.elim) (fun _ h => h.elim) (fun _ h => h.elim)

end Go.Proofs.Ytnfdncofobkjhaa

/- Plain: a snap that the call holds is owned; what one step tells. -/
namespace Go.Proofs.Ytnfdncofobkjhaa
open Go.RowKit

theorem SV.own {w : World} {lo : Nat → Prop} {g0 n0 c0 g1 n1 c1 : Nat} {ps : List TProc} {ws : List TWire} {cells0 cells1 : List Value} {G : Nat → Nat → Prop} (h : SV w lo g0 n0 c0 g1 n1 c1 ps ws cells0 cells1 G) :
    RSnap.Own w (In lo w.heap.size) [.slice (some ⟨g0, 0, none⟩) n0 c0, .slice (some ⟨g1, 0, none⟩) n1 c1] (ps, ws) := by
  have hb0 : ∀ b, (Value.slice (some ⟨g0, 0, none⟩) n0 c0).ownBlock = some b → b = g0 := fun b hb => by
    simp [Value.ownBlock] at hb; exact hb.symm
  have hb1 : ∀ b, (Value.slice (some ⟨g1, 0, none⟩) n1 c1).ownBlock = some b → b = g1 := fun b hb => by
    simp [Value.ownBlock] at hb; exact hb.symm
  refine RSnap.own_mk (F0 := fun b => b = g0) (F1 := fun b => b = g1 ∨ ∃ i, i < n1 ∧ G i b)
    ⟨_, _, _, cells0, fun _ _ => False, rfl, ⟨h.pr.len, h.pr.big, h.pr.outer, hb0, h.pr.row, fun _ _ _ hb => hb.elim, fun _ _ _ _ _ _ hb => hb.elim⟩⟩
    ⟨_, _, _, cells1, G, rfl, ⟨h.wi.len, h.wi.big, h.wi.outer, fun b hb => .inl (hb1 b hb), h.wi.row, fun i b hi hb => ⟨.inr ⟨i, hi, hb⟩, (h.wi.rowF i b hi hb).2⟩, h.wi.apart⟩⟩
    (fun b hb => ?_) (fun b hb => ?_) (fun b hb hb' => ?_)
  · have hb2 : b = g0 := hb
    rw [hb2]; exact h.l0
  · rcases hb with hb | ⟨i, hi, hb⟩
    · rw [hb]; exact h.l1
    · exact (h.wi.rowF i b hi hb).1
  · have hb2 : b = g0 := hb
    rcases hb' with hb' | ⟨i, hi, hb'⟩
    · exact h.ne (hb2.symm.trans hb')
    · exact h.ap i b hi hb' hb2
def stT (x : TSnap) (kd f t v : Int) : Bool × List TProc × List TWire := stS x.1.length kd f t v x.1 x.2
def spB (x : TSnap) (kd f t v : Int) : Bool := gsB x && (stT x kd f t v).1 && gsB (stT x kd f t v).2
def spX (x : TSnap) (kd f t v : Int) : TSnap := if spB x kd f t v then (stT x kd f t v).2 else ([], [])
theorem setL {α : Type} (l : List α) (i : Nat) (x : α) : (l.set i x).length = l.length := List.length_set
theorem svS_len (n who k : Nat) (ws : List TWire) : (svS n who k ws).2.length = ws.length := by
  unfold svS
  split
  · rfl
  · split
    · simp
    · rfl
theorem svF_len (n who : Nat) : ∀ (m k : Nat) (ws : List TWire), (svF n who m k ws).2.length = ws.length
  | 0, _, _ => rfl
  | m + 1, k, ws => by
    unfold svF
    split
    · rw [svF_len n who m (k + 1), svS_len]
    · rfl
theorem stT_len (x : TSnap) (kd f t v : Int) : (stT x kd f t v).2.1.length = x.1.length ∧ (stT x kd f t v).2.2.length = x.2.length := by
  obtain ⟨ps, ws⟩ := x
  unfold stT stS
  simp only
  split
  · split
    · exact ⟨by unfold snP; simp, by unfold snW; simp⟩
    · exact ⟨rfl, rfl⟩
  · split
    · split
      · unfold tkF mkF mkP mkW
        (try simp only)
        split
        · exact ⟨rfl, rfl⟩
        · split
          · exact ⟨rfl, rfl⟩
          · split
            · refine ⟨?_, ?_⟩
              · (try simp only); split <;> simp
              · (try simp only); split <;> simp [svF_len]
            · refine ⟨by simp, ?_⟩
              (try simp only); split <;> simp
      · exact ⟨rfl, rfl⟩
    · split
      · split
        · exact ⟨by simp, svF_len _ _ _ _ _⟩
        · exact ⟨rfl, rfl⟩
      · exact ⟨rfl, rfl⟩

end Go.Proofs.Ytnfdncofobkjhaa

/- slices.IndexFunc, slices.ContainsFunc at Proc, whatever function is asked. -/
namespace Go.Proofs.Ytnfdncofobkjhaa
open Go.RowKit

set_option maxRecDepth 100000 in
set_option maxHeartbeats 8000000 in
theorem indexProc_any (F : Nat) (P : TProc → Bool) (hE : ∀ (args : Array Value) (w : World), (callFunc F args).run Try.prog w = .ok (.enter F args) w) (hF : ∀  (zi0 : Int) (zi1 : Int) (bo2 : Bool)  (w : World), Calls Try.prog F #[.agg #[.int .i64 zi0, .int .i64 zi1, .bool bo2]] w fun e w' => e = .returned (.bool (P (zi0, zi1, bo2))) ∧ Below w.heap.size w w') (a : Option Addr) (n c : Nat) (xs : List TProc) (w : World) (hz : xs.length = n) (hn : n ≤ 9223372036854775807) (ha : AtSl RProc w a xs) :
    Calls Try.prog 76 #[.slice a n c, .func (.func F) #[] #[]] w fun e w' => e = .returned (.int .i64 (ixF P xs)) ∧ Below w.heap.size w w' := by
  have HF := Hid.mk hF
  have HZ := Hid.mk hz
  have HA := Hid.mk ha
  clear hF ha hz
  go_enter Try.func76, Try.ntmps76
  go_wp2
  go_loopw [8] (fun i wr => ∃ (k : Nat), k ≤ n ∧ i = .int .i64 k ∧ (∀ (j : Nat) (y : TProc), j < k → xs[j]? = some y → P y = false) ∧ Below w.heap.size w wr) (fun i _ => n - (intOf i).toNat)
  case atStart => exact ⟨0, Nat.zero_le _, rfl, fun j y hj => by omega, Below.refl _ _⟩
  case round =>
    obtain ⟨k, hk, rfl, ht, hbw⟩ := hrel
    obtain ⟨wY, rfl⟩ : ∃ x, x = wr := ⟨_, rfl⟩
    by_cases hlt : k < n
    · obtain ⟨b, off, rfl, hb, hc⟩ := RProc.row (AtSl.below HA.out hbw) (by have := HZ.out; omega)
      obtain ⟨⟨zi0, zi1, bo2⟩, hy⟩ : ∃ y, xs[k]? = some y := ⟨_, List.getElem?_eq_getElem (by have := HZ.out; omega)⟩
      obtain ⟨g0, g1, g2, _⟩ := hc k _ hy
      have K := Hid.mk (HF.out zi0 zi1 bo2 wY)
      have HT := Hid.mk ht
      have HY := Hid.mk hy
      have HBW := Hid.mk hbw
      have hki : (k : Int) < (n : Int) := by omega
      clear hc hy ht hbw
      cases hr : P (zi0, zi1, bo2) with
      | true =>
        rw [hr] at K
        go_wp2_with fail
        refine K.out.mono ?_
        rintro e w3 ⟨rfl, hb3⟩
        have HB3 := Hid.mk (HBW.out.trans (hb3.mono HBW.out.size))
        clear hb3 K
        go_wp2
        go_ret
        exact ⟨ret_int (ixF_hit HY.out hr HT.out).symm, HB3.out⟩
      | false =>
        rw [hr] at K
        go_wp2_with fail
        refine K.out.mono ?_
        rintro e w3 ⟨rfl, hb3⟩
        have HB3 := Hid.mk (HBW.out.trans (hb3.mono HBW.out.size))
        clear hb3 K
        go_wp2
        go_roundw
        case rel => exact ⟨k + 1, by omega, by go_num, fun j z hj hz => by
          by_cases e : j = k
          · subst e; rw [HY.out] at hz; cases hz; exact hr
          · exact HT.out j z (by omega) hz, HB3.out⟩
        case measure => simp [intOf]; omega
    · have HT := Hid.mk ht
      clear ht
      go_wp2
      go_ret
      exact ⟨ret_int (ixF_none (n := k) (by have := HZ.out; omega) HT.out).symm, hbw⟩

set_option maxRecDepth 100000 in
set_option maxHeartbeats 8000000 in
theorem containsProc_any (F : Nat) (P : TProc → Bool) (hE : ∀ (args : Array Value) (w : World), (callFunc F args).run Try.prog w = .ok (.enter F args) w) (hF : ∀  (zi0 : Int) (zi1 : Int) (bo2 : Bool)  (w : World), Calls Try.prog F #[.agg #[.int .i64 zi0, .int .i64 zi1, .bool bo2]] w fun e w' => e = .returned (.bool (P (zi0, zi1, bo2))) ∧ Below w.heap.size w w') (a : Option Addr) (n c : Nat) (xs : List TProc) (w : World) (hz : xs.length = n) (hn : n ≤ 9223372036854775807) (ha : AtSl RProc w a xs) :
    Calls Try.prog 48 #[.slice a n c, .func (.func F) #[] #[]] w fun e w' => e = .returned (.bool (xs.any P)) ∧ Below w.heap.size w w' := by
  have K := Hid.mk (indexProc_any F P hE hF a n c xs w hz hn ha)
  rw [← ixF_ge P xs]
  obtain ⟨q, hq⟩ : ∃ q, ixF P xs = q := ⟨_, rfl⟩
  rw [hq] at K ⊢
  clear ha hz hF hE hq
  go_enter Try.func48, Try.ntmps48
  go_wp2_with fail
  refine K.out.mono ?_
  rintro e w2 ⟨rfl, hb⟩
  clear K
  go_wp2
  go_ret
  exact ⟨rfl, hb⟩

end Go.Proofs.Ytnfdncofobkjhaa
