/- Several texts of one proof, in build order: NapT, FzI, NapU. -/
import Derived.Test.YtnfdncofobkjhaaM13
import Derived.Test.YtnfdncofobkjhaaM4
import Derived.Test.YtnfdncofobkjhaaM25
import Derived.Test.YtnfdncofobkjhaaM7
import Derived.Test.YtnfdncofobkjhaaM11
import Derived.Test.YtnfdncofobkjhaaM15

/- Contracts of the program's TotalIn and PictureOf. -/
namespace Go.Proofs.Ytnfdncofobkjhaa
open Go.RowKit

set_option maxRecDepth 100000 in
set_option maxHeartbeats 4000000 in
theorem implPictureOf (a0 : Option Addr) (n0 c0 : Nat) (a1 : Option Addr) (n1 c1 : Nat) (ps : List TProc) (ws : List TWire) (w : World) (h0 : ps.length = n0) (h1 : ws.length = n1) (hb0 : n0 ≤ 1048576) (hb1 : n1 ≤ 1048576) (ha0 : AtSl RProc w a0 ps) (ha1 : AtSl RWire w a1 ws) :
    Calls Try.prog 51 #[.agg #[.slice a0 n0 c0, .slice a1 n1 c1]] w fun e w' => e = .returned (.tuple #[.int .i64 (if picB (ps, ws) then recS (ps, ws) else 0), .bool (picB (ps, ws))]) ∧ Below w.heap.size w w' := by
  have HV : Hid (picB (ps, ws) = (gsB (ps, ws) && ps.all (fun p => p.2.2) && ws.all (fun v => !v.2.2))) := Hid.mk rfl
  have H0 := Hid.mk h0
  have H1 := Hid.mk h1
  obtain ⟨W, hW⟩ : ∃ W, W = w.alloc (.cells #[.slice a0 n0 c0, .slice a1 n1 c1] 32) := ⟨_, rfl⟩
  have B0 : Below w.heap.size w W := by rw [hW]; exact (Below.refl _ _).alloc (Nat.le_refl _) _
  have p0 : W.cell? ⟨w.heap.size, 0, none⟩ = some (.slice a0 n0 c0) := by rw [hW]; simp
  have p1 : W.cell? ⟨w.heap.size, 1, none⟩ = some (.slice a1 n1 c1) := by rw [hW]; simp
  have HA0 := Hid.mk (AtSl.below ha0 B0)
  have HA1 := Hid.mk (AtSl.below ha1 B0)
  have KG := Hid.mk (implGoodSnap a0 n0 c0 a1 n1 c1 ps ws W h0 h1 hb0 hb1 HA0.out HA1.out)
  have HGP := Hid.mk (fun h => gs_parts h0 h1 h)
  clear ha0 ha1 h0 h1
  cases hg : gsB (ps, ws) with
  | false =>
    rw [hg] at KG HV
    rw [show picB (ps, ws) = false by rw [HV.out]; rfl]
    go_enter Try.func51, Try.ntmps51
    go_wp2_with fail
    rw [← hW]
    clear hW
    refine KG.out.mono ?_
    rintro e w1 ⟨rfl, hb1⟩
    have p0 := cell_later hb1 p0
    have p1 := cell_later hb1 p1
    have B1 := Hid.mk (B0.trans (hb1.mono B0.size))
    go_wp2
    refine bodyPost_ret (v := .tuple #[.int .i64 0, .bool false]) (by simp [results, Try.results51, go_sem]) rfl ⟨rfl, B1.out⟩
  | true =>
    obtain ⟨g1, g2, g3, g4, g5, g6, g7⟩ := HGP.out hg
    rw [hg] at KG HV
    have KA := Hid.mk (fun w hw => recordedIn_any a0 n0 c0 a1 n1 c1 ps ws w H0.out H1.out g2 g4 g5 g6 (AtSl.below HA0.out hw) (AtSl.below HA1.out hw))
    have hA : recS (ps, ws) = pSav ps + wRec ws := rfl
    rw [← hA] at KA
    obtain ⟨A, hA2⟩ : ∃ A, recS (ps, ws) = A := ⟨_, rfl⟩
    rw [hA2] at KA ⊢
    clear hA hA2 HGP g5 g6 g7 g3
    cases hd : ps.all (fun p => p.2.2) with
    | false =>
      rw [hd] at HV
      rw [show picB (ps, ws) = false by rw [HV.out]; rfl]
      go_enter Try.func51, Try.ntmps51
      go_wp2_with fail
      rw [← hW]
      clear hW
      refine KG.out.mono ?_
      rintro e w1 ⟨rfl, hb1⟩
      have p0 := cell_later hb1 p0
      have p1 := cell_later hb1 p1
      have B1 := Hid.mk (B0.trans (hb1.mono B0.size))
      have KP := Hid.mk (containsProc_any 79 (fun p => !p.2.2) (fun _ _ => rfl) (fun z0 z1 b w => isNotDone_any z0 z1 b w) a0 n0 c0 ps w1 H0.out (by omega) (AtSl.below HA0.out hb1))
      rw [any_not (fun p : TProc => p.2.2)] at KP
      rw [hd] at KP
      go_wp2_with fail
      refine KP.out.mono ?_
      rintro e w2 ⟨rfl, hb2⟩
      have p0 := cell_later hb2 p0
      have p1 := cell_later hb2 p1
      have B2 := Hid.mk (B1.out.trans (hb2.mono B1.out.size))
      go_wp2
      refine bodyPost_ret (v := .tuple #[.int .i64 0, .bool false]) (by simp [results, Try.results51, go_sem]) rfl ⟨rfl, B2.out⟩
    | true =>
      rw [hd] at HV
      cases hw : ws.all (fun v => !v.2.2) with
      | false =>
        rw [hw] at HV
        rw [show picB (ps, ws) = false by rw [HV.out]; rfl]
        go_enter Try.func51, Try.ntmps51
        go_wp2_with fail
        rw [← hW]
        clear hW
        refine KG.out.mono ?_
        rintro e w1 ⟨rfl, hb1⟩
        have p0 := cell_later hb1 p0
        have p1 := cell_later hb1 p1
        have B1 := Hid.mk (B0.trans (hb1.mono B0.size))
        have KP := Hid.mk (containsProc_any 79 (fun p => !p.2.2) (fun _ _ => rfl) (fun z0 z1 b w => isNotDone_any z0 z1 b w) a0 n0 c0 ps w1 H0.out (by omega) (AtSl.below HA0.out hb1))
        rw [any_not (fun p : TProc => p.2.2)] at KP
        rw [hd] at KP
        go_wp2_with fail
        refine KP.out.mono ?_
        rintro e w2 ⟨rfl, hb2⟩
        have p0 := cell_later hb2 p0
        have p1 := cell_later hb2 p1
        have B2 := Hid.mk (B1.out.trans (hb2.mono B1.out.size))
        have KW := Hid.mk (containsWire_any 81 (fun v => v.2.2) (fun _ _ => rfl) (fun a0 n0 c0 a1 n1 c1 b x0 x1 w _ _ => isOpen_any a0 n0 c0 a1 n1 c1 b w) a1 n1 c1 ws w2 H1.out (by omega) (AtSl.below HA1.out (hb1.trans (hb2.mono hb1.size))))
        have hwo : ws.any (fun v => v.2.2) = !ws.all (fun v => !v.2.2) := by rw [← any_not (fun v : TWire => !v.2.2)]; simp
        rw [hwo] at KW
        rw [hw] at KW
        go_wp2_with fail
        refine KW.out.mono ?_
        rintro e w3 ⟨rfl, hb3⟩
        have p0 := cell_later hb3 p0
        have p1 := cell_later hb3 p1
        have B3 := Hid.mk (B2.out.trans (hb3.mono B2.out.size))
        go_wp2
        refine bodyPost_ret (v := .tuple #[.int .i64 0, .bool false]) (by simp [results, Try.results51, go_sem]) rfl ⟨rfl, B3.out⟩
      | true =>
        rw [hw] at HV
        rw [show picB (ps, ws) = true by rw [HV.out]; rfl]
        go_enter Try.func51, Try.ntmps51
        go_wp2_with fail
        rw [← hW]
        clear hW
        refine KG.out.mono ?_
        rintro e w1 ⟨rfl, hb1⟩
        have p0 := cell_later hb1 p0
        have p1 := cell_later hb1 p1
        have B1 := Hid.mk (B0.trans (hb1.mono B0.size))
        have KP := Hid.mk (containsProc_any 79 (fun p => !p.2.2) (fun _ _ => rfl) (fun z0 z1 b w => isNotDone_any z0 z1 b w) a0 n0 c0 ps w1 H0.out (by omega) (AtSl.below HA0.out hb1))
        rw [any_not (fun p : TProc => p.2.2)] at KP
        rw [hd] at KP
        go_wp2_with fail
        refine KP.out.mono ?_
        rintro e w2 ⟨rfl, hb2⟩
        have p0 := cell_later hb2 p0
        have p1 := cell_later hb2 p1
        have B2 := Hid.mk (B1.out.trans (hb2.mono B1.out.size))
        have KW := Hid.mk (containsWire_any 81 (fun v => v.2.2) (fun _ _ => rfl) (fun a0 n0 c0 a1 n1 c1 b x0 x1 w _ _ => isOpen_any a0 n0 c0 a1 n1 c1 b w) a1 n1 c1 ws w2 H1.out (by omega) (AtSl.below HA1.out (hb1.trans (hb2.mono hb1.size))))
        have hwo : ws.any (fun v => v.2.2) = !ws.all (fun v => !v.2.2) := by rw [← any_not (fun v : TWire => !v.2.2)]; simp
        rw [hwo] at KW
        rw [hw] at KW
        go_wp2_with fail
        refine KW.out.mono ?_
        rintro e w3 ⟨rfl, hb3⟩
        have p0 := cell_later hb3 p0
        have p1 := cell_later hb3 p1
        have B3 := Hid.mk (B2.out.trans (hb3.mono B2.out.size))
        have b13 := hb1.trans ((hb2.trans (hb3.mono hb2.size)).mono hb1.size)
        go_wp2_with fail
        refine (KA.out _ b13).mono ?_
        rintro e w4 ⟨rfl, hb4⟩
        have B4 := Hid.mk (B3.out.trans (hb4.mono B3.out.size))
        clear hb1 hb2 hb3 hb4 b13 KA KG KP KW
        go_wp2
        refine bodyPost_ret (v := .tuple #[.int .i64 (A), .bool true]) (by simp [results, Try.results51, go_sem]) rfl ⟨rfl, B4.out⟩

end Go.Proofs.Ytnfdncofobkjhaa

/- Contract of the program's FinishSnap. -/
namespace Go.Proofs.Ytnfdncofobkjhaa
open Go.RowKit

set_option maxRecDepth 100000 in
set_option maxHeartbeats 20000000 in
theorem implFinishSnap (a0 : Option Addr) (n0 c0 : Nat) (a1 : Option Addr) (n1 c1 : Nat) (ps : List TProc) (ws : List TWire) (w : World) (h0 : ps.length = n0) (h1 : ws.length = n1) (hb0 : n0 ≤ 1048576) (hb1 : n1 ≤ 1048576) (_hsm : ∀ (i : Nat) (x : TWire), ws[i]? = some x → costWire x ≤ 1048576) (ha0 : AtSl RProc w a0 ps) (ha1 : AtSl RWire w a1 ws) :
    Calls Try.prog 27 #[.agg #[.slice a0 n0 c0, .slice a1 n1 c1]] w fun e w' => FzRet e w' w.heap.size (fzN (ps, ws)) (fzOk (ps, ws)) (fzZ (ps, ws)) ∧ Below w.heap.size w w' := by
  obtain ⟨W1, hW1⟩ : ∃ W, W = w.alloc (.cells #[.slice a0 n0 c0, .slice a1 n1 c1] 32) := ⟨_, rfl⟩
  obtain ⟨W, hW⟩ : ∃ W, W = W1.alloc (.cells #[.slice none 0 0, .slice none 0 0] 32) := ⟨_, rfl⟩
  have z1 : W1.heap.size = w.heap.size + 1 := by rw [hW1]; simp
  have zW : W.heap.size = w.heap.size + 2 := by rw [hW]; simp [z1]
  have B01 : Below w.heap.size w W1 := by rw [hW1]; exact (Below.refl _ _).alloc (Nat.le_refl _) _
  have B12 : Below W1.heap.size W1 W := by rw [hW]; exact (Below.refl _ _).alloc (Nat.le_refl _) _
  have b0 : W.heap[w.heap.size]? = some (.cells #[.slice a0 n0 c0, .slice a1 n1 c1] 32 (0, 0)) := blk_below (by rw [hW1]; exact heap_alloc_new w _) B12
  have b1 : W.heap[w.heap.size + 1]? = some (.cells #[.slice none 0 0, .slice none 0 0] 32 (0, 0)) := by rw [hW, ← z1]; exact heap_alloc_new W1 _
  have B0 : Below w.heap.size w W := B01.trans (B12.mono (by omega))
  have hWW : W = (w.alloc (.cells #[.slice a0 n0 c0, .slice a1 n1 c1] 32)).alloc (.cells #[.slice none 0 0, .slice none 0 0] 32) := by rw [hW, hW1]
  clear B01 B12 hW hW1 z1 W1
  obtain ⟨GB, hGB⟩ : ∃ x, gsB (ps, ws) = x := ⟨_, rfl⟩
  obtain ⟨AD, hAD⟩ : ∃ x, anyD (ps, ws) = x := ⟨_, rfl⟩
  obtain ⟨FN, hFN⟩ : ∃ x, fzN (ps, ws) = x := ⟨_, rfl⟩
  obtain ⟨FO, hFO⟩ : ∃ x, fzOk (ps, ws) = x := ⟨_, rfl⟩
  obtain ⟨FZ, hFZ⟩ : ∃ x, fzZ (ps, ws) = x := ⟨_, rfl⟩
  have KG := Hid.mk (implGoodSnap a0 n0 c0 a1 n1 c1 ps ws W h0 h1 hb0 hb1 (AtSl.below ha0 B0) (AtSl.below ha1 B0))
  rw [hGB] at KG
  rw [hFN, hFO, hFZ]
  have HGB := Hid.mk hGB
  have HAD := Hid.mk hAD
  have HFN := Hid.mk hFN
  have HFO := Hid.mk hFO
  have HFZ := Hid.mk hFZ
  have H0 := Hid.mk h0
  have H1 := Hid.mk h1
  have HA0 := Hid.mk (AtSl.below ha0 B0)
  have HA1 := Hid.mk (AtSl.below ha1 B0)
  clear ha0 ha1 h0 h1 _hsm hGB hAD hFN hFO hFZ
  have q0 := blk_cell b0 0 (v := .slice a0 n0 c0) rfl
  have q1 := blk_cell b0 1 (v := .slice a1 n1 c1) rfl
  go_enter Try.func27, Try.ntmps27
  go_upto_region 1 with fail
  rw [← hWW]
  clear hWW
  go_wp2_with fail
  refine KG.out.mono ?_
  rintro e w1 ⟨rfl, hb1'⟩
  have b0 := blk_below b0 hb1'
  have b1 := blk_below b1 hb1'
  have z1 := hb1'.size
  have B1 := B0.trans (hb1'.mono B0.size)
  have HA0 := Hid.mk (AtSl.below HA0.out hb1')
  have HA1 := Hid.mk (AtSl.below HA1.out hb1')
  clear hb1' KG q0 q1
  cases GB with
  | false =>
    have hNO : fzOk (ps, ws) = false := by unfold fzOk; rw [HGB.out]; rfl
    obtain rfl : false = FO := by rw [← HFO.out, hNO]
    obtain rfl : (0 : Int) = FN := by rw [← HFN.out]; unfold fzN; rw [hNO]; rfl
    obtain rfl : (([], []) : TSnap) = FZ := by rw [← HFZ.out]; unfold fzZ; rw [hNO]; rfl
    clear hNO
    have y0 := blk_cell b1 0 (v := .slice none 0 0) rfl
    have y1 := blk_cell b1 1 (v := .slice none 0 0) rfl
    have fz0 := blk_frozen b1 0
    have fz1 := blk_frozen b1 1
    go_wp2
    refine bodyPost_ret (v := .tuple #[.agg #[.slice none 0 0, .slice none 0 0], .int .i64 0, .bool false]) (by simp [results, Try.results27, go_sem, y0, y1]) rfl ⟨⟨none, 0, 0, none, 0, 0, rfl, RSnap.nil _ _⟩, ?_⟩
    exact (B1.setCell (by show w.heap.size ≤ w.heap.size + 1; omega) _).setCell (by show w.heap.size ≤ w.heap.size + 1; omega) _
  | true =>
    obtain ⟨g2, g4, gn, g16, gp, gw, _⟩ := gs_parts H0.out H1.out HGB.out
    have KP := Hid.mk (containsProc_any 49 (fun p => p.2.2) (fun _ _ => rfl) (fun z0 z1 b w => isDone_any z0 z1 b w) a0 n0 c0 ps w1 H0.out (by omega) HA0.out)
    rw [show ps.any (fun p => p.2.2) = AD from HAD.out] at KP
    have q0 := blk_cell b0 0 (v := .slice a0 n0 c0) rfl
    have q1 := blk_cell b0 1 (v := .slice a1 n1 c1) rfl
    go_wp2_with fail
    refine KP.out.mono ?_
    rintro e w2 ⟨rfl, hb2⟩
    have b0 := blk_below b0 hb2
    have b1 := blk_below b1 hb2
    have z2 := hb2.size
    have B2 := B1.trans (hb2.mono B1.size)
    have HA0 := Hid.mk (AtSl.below HA0.out hb2)
    have HA1 := Hid.mk (AtSl.below HA1.out hb2)
    clear hb2 KP q0 q1
    cases AD with
    | false =>
      have hNO : fzOk (ps, ws) = false := by unfold fzOk; rw [HGB.out, HAD.out]; rfl
      obtain rfl : false = FO := by rw [← HFO.out, hNO]
      obtain rfl : (0 : Int) = FN := by rw [← HFN.out]; unfold fzN; rw [hNO]; rfl
      obtain rfl : (([], []) : TSnap) = FZ := by rw [← HFZ.out]; unfold fzZ; rw [hNO]; rfl
      clear hNO
      have y0 := blk_cell b1 0 (v := .slice none 0 0) rfl
      have y1 := blk_cell b1 1 (v := .slice none 0 0) rfl
      have fz0 := blk_frozen b1 0
      have fz1 := blk_frozen b1 1
      go_wp2
      refine bodyPost_ret (v := .tuple #[.agg #[.slice none 0 0, .slice none 0 0], .int .i64 0, .bool false]) (by simp [results, Try.results27, go_sem, y0, y1]) rfl ⟨⟨none, 0, 0, none, 0, 0, rfl, RSnap.nil _ _⟩, ?_⟩
      exact (B2.setCell (by show w.heap.size ≤ w.heap.size + 1; omega) _).setCell (by show w.heap.size ≤ w.heap.size + 1; omega) _
    | true =>
      have KC := Hid.mk (copySnap_any a0 n0 c0 a1 n1 c1 ps ws w2 H0.out H1.out (by omega) g4 (by rw [gn]; exact Nat.mul_pos (by omega) (by omega)) g16 (wire_small gw) HA0.out HA1.out)
      have HGN := Hid.mk gn
      clear gn gp gw
      have q0 := blk_cell b0 0 (v := .slice a0 n0 c0) rfl
      have q1 := blk_cell b0 1 (v := .slice a1 n1 c1) rfl
      go_wp2_with fail
      refine KC.out.mono ?_
      rintro e w3 ⟨g0, d0, g1, d1, cs0, cs1, G, rfl, hsv, hb3⟩
      have b0 := blk_below b0 hb3
      have b1 := blk_below b1 hb3
      have z3 := hb3.size
      have B3 := B2.trans (hb3.mono B2.size)
      have KT := Hid.mk (takeAllWords_any _ (some ⟨g0, 0, none⟩) n0 d0 (some ⟨g1, 0, none⟩) n1 d1 ps ws w3 (fun b h => h.2) HGB.out (SV.own hsv))
      obtain ⟨⟨RB, K, lp, lw⟩, hV⟩ : ∃ y, fzS 2000 (ps, ws) 0 = y := ⟨_, rfl⟩
      have hfit := fzS_fit (m := 2000) (k := 0) HGB.out
      rw [hV] at KT hfit
      have HFIT := Hid.mk hfit
      have HV : Hid ((RB, K, lp, lw) = fzV (ps, ws)) := Hid.mk (by unfold fzV; rw [hV])
      clear hsv hb3 KC q0 q1 hV hfit
      go_wp2_with fail
      refine KT.out.mono ?_
      rintro e w4 ⟨⟨r0, mr0, dr0, r1, mr1, dr1, rfl, hot⟩, hb4⟩
      have b0 := blk_below b0 hb4
      have b1 := blk_below b1 hb4
      have z4 := hb4.size
      have B4 := B3.trans (hb4.mono B3.size)
      (try simp only at hot)
      clear KT hb4
      obtain ⟨Xx, hX⟩ : ∃ u, u = w4.alloc (.cells #[.slice r0 mr0 dr0, .slice r1 mr1 dr1] 32) := ⟨_, rfl⟩
      have bX : Below w4.heap.size w4 Xx := by rw [hX]; exact (Below.refl _ _).alloc (Nat.le_refl _) _
      have x0 : Xx.heap[w4.heap.size]? = some (.cells #[.slice r0 mr0 dr0, .slice r1 mr1 dr1] 32 (0, 0)) := by rw [hX]; exact heap_alloc_new w4 _
      have b0 := blk_below b0 bX
      have b1 := blk_below b1 bX
      have zXx := bX.size
      have zlXx : w4.heap.size < Xx.heap.size := by rw [hX]; simp
      have BXx : Below w.heap.size w Xx := B4.trans (bX.mono B4.size)
      have hot := RSnap.ownBelow hot bX
      have hq := RSnap.at_iff (RSnap.toAt hot)
      have KPi := Hid.mk (implPictureOf r0 mr0 dr0 r1 mr1 dr1 lp lw Xx hq.1.1 hq.2.1 (by rw [← hq.1.1]; exact HFIT.out.1) (by rw [← hq.2.1]; exact HFIT.out.2.1) hq.1.2.2.1 hq.2.2.2.1)
      obtain ⟨PQ, hPQ⟩ : ∃ y, picB (lp, lw) = y := ⟨_, rfl⟩
      rw [hPQ] at KPi
      have HPQ := Hid.mk hPQ
      have HOT := Hid.mk hot
      clear hot hq bX hPQ
      go_upto_region 4 with fail
      (try simp only)
      rw [← hX]
      clear hX
      have p0 := blk_cell x0 0 (v := .slice r0 mr0 dr0) rfl
      have p1 := blk_cell x0 1 (v := .slice r1 mr1 dr1) rfl
      go_wp2_with fail
      refine KPi.out.mono ?_
      rintro e w5 ⟨rfl, hb5⟩
      have b1 := blk_below b1 hb5
      have x0 := blk_below x0 hb5
      have z5 := hb5.size
      have B5 := BXx.trans (hb5.mono BXx.size)
      have HOT := Hid.mk (RSnap.ownBelow HOT.out hb5)
      clear KPi hb5 p0 p1 b0
      cases RB with
      | false =>
        have hNO : fzOk (ps, ws) = false := by unfold fzOk; rw [HGB.out, HAD.out, ← HV.out]; rfl
        cases PQ with
        | false =>
          obtain rfl : false = FO := by rw [← HFO.out, hNO]
          obtain rfl : (0 : Int) = FN := by rw [← HFN.out]; unfold fzN; rw [hNO]; rfl
          obtain rfl : (([], []) : TSnap) = FZ := by rw [← HFZ.out]; unfold fzZ; rw [hNO]; rfl
          clear hNO
          have y0 := blk_cell b1 0 (v := .slice none 0 0) rfl
          have y1 := blk_cell b1 1 (v := .slice none 0 0) rfl
          have fz0 := blk_frozen b1 0
          have fz1 := blk_frozen b1 1
          go_wp2
          refine bodyPost_ret (v := .tuple #[.agg #[.slice none 0 0, .slice none 0 0], .int .i64 0, .bool false]) (by simp [results, Try.results27, go_sem, y0, y1]) rfl ⟨⟨none, 0, 0, none, 0, 0, rfl, RSnap.nil _ _⟩, ?_⟩
          exact (B5.setCell (by show w.heap.size ≤ w.heap.size + 1; omega) _).setCell (by show w.heap.size ≤ w.heap.size + 1; omega) _
        | true =>
          obtain rfl : false = FO := by rw [← HFO.out, hNO]
          obtain rfl : (0 : Int) = FN := by rw [← HFN.out]; unfold fzN; rw [hNO]; rfl
          obtain rfl : (([], []) : TSnap) = FZ := by rw [← HFZ.out]; unfold fzZ; rw [hNO]; rfl
          clear hNO
          have y0 := blk_cell b1 0 (v := .slice none 0 0) rfl
          have y1 := blk_cell b1 1 (v := .slice none 0 0) rfl
          have fz0 := blk_frozen b1 0
          have fz1 := blk_frozen b1 1
          go_wp2
          refine bodyPost_ret (v := .tuple #[.agg #[.slice none 0 0, .slice none 0 0], .int .i64 0, .bool false]) (by simp [results, Try.results27, go_sem, y0, y1]) rfl ⟨⟨none, 0, 0, none, 0, 0, rfl, RSnap.nil _ _⟩, ?_⟩
          exact (B5.setCell (by show w.heap.size ≤ w.heap.size + 1; omega) _).setCell (by show w.heap.size ≤ w.heap.size + 1; omega) _
      | true =>
        cases PQ with
        | false =>
          have hNO : fzOk (ps, ws) = false := by unfold fzOk; rw [HGB.out, HAD.out, ← HV.out]; exact HPQ.out
          obtain rfl : false = FO := by rw [← HFO.out, hNO]
          obtain rfl : (0 : Int) = FN := by rw [← HFN.out]; unfold fzN; rw [hNO]; rfl
          obtain rfl : (([], []) : TSnap) = FZ := by rw [← HFZ.out]; unfold fzZ; rw [hNO]; rfl
          clear hNO
          have y0 := blk_cell b1 0 (v := .slice none 0 0) rfl
          have y1 := blk_cell b1 1 (v := .slice none 0 0) rfl
          have fz0 := blk_frozen b1 0
          have fz1 := blk_frozen b1 1
          go_wp2
          refine bodyPost_ret (v := .tuple #[.agg #[.slice none 0 0, .slice none 0 0], .int .i64 0, .bool false]) (by simp [results, Try.results27, go_sem, y0, y1]) rfl ⟨⟨none, 0, 0, none, 0, 0, rfl, RSnap.nil _ _⟩, ?_⟩
          exact (B5.setCell (by show w.heap.size ≤ w.heap.size + 1; omega) _).setCell (by show w.heap.size ≤ w.heap.size + 1; omega) _
        | true =>
          have HOK : Hid (fzOk (ps, ws) = true) := Hid.mk (by unfold fzOk; rw [HGB.out, HAD.out, ← HV.out]; exact HPQ.out)
          have p0 := blk_cell x0 0 (v := .slice r0 mr0 dr0) rfl
          have p1 := blk_cell x0 1 (v := .slice r1 mr1 dr1) rfl
          have y0 := blk_cell b1 0 (v := .slice none 0 0) rfl
          have y1 := blk_cell b1 1 (v := .slice none 0 0) rfl
          have fz0 := blk_frozen b1 0
          have fz1 := blk_frozen b1 1
          obtain ⟨Y, hY⟩ : ∃ u, u = (w5.setCell ⟨w.heap.size + 1, 0, none⟩ (.slice r0 mr0 dr0)).setCell ⟨w.heap.size + 1, 1, none⟩ (.slice r1 mr1 dr1) := ⟨_, rfl⟩
          have S1 : Off (fun b => b = w.heap.size + 1) w5 Y := by rw [hY]; exact (Off.set (F := fun b => b = w.heap.size + 1) (a := ⟨w.heap.size + 1, 0, none⟩) rfl _).trans (Off.set (F := fun b => b = w.heap.size + 1) (a := ⟨w.heap.size + 1, 1, none⟩) rfl _)
          have RR : Hid (FzRet (.returned (.tuple #[.agg #[.slice r0 mr0 dr0, .slice r1 mr1 dr1], .int .i64 (K : Nat), .bool true])) Y w.heap.size FN FO FZ ∧ Below w.heap.size w Y) := Hid.mk (by
            have zS := S1.size
            rw [← HFO.out, ← HFN.out, ← HFZ.out]
            unfold fzN fzZ
            rw [HOK.out, ← HV.out]
            refine ⟨⟨r0, mr0, dr0, r1, mr1, dr1, rfl, RSnap.mono (RSnap.ownOff HOT.out S1 (fun b h e => by have h2 : b = w.heap.size + 1 := e; rcases h with h3 | h3; (have h4 : w2.heap.size ≤ b := h3.1; omega); (have := h3.1; omega))) (fun b h => ?_)⟩, B5.trans (S1.belowOf (fun b h => by have h2 : b = w.heap.size + 1 := h; omega) (by omega))⟩
            rcases h with h3 | h3
            · have h4 : w2.heap.size ≤ b := h3.1
              have := h3.2
              exact ⟨by omega, by omega⟩
            · have := h3.1
              have := h3.2
              exact ⟨by omega, by omega⟩)
          have HY := Hid.mk hY
          clear S1 hY
          go_wp2
          refine bodyPost_ret (v := .tuple #[.agg #[.slice r0 mr0 dr0, .slice r1 mr1 dr1], .int .i64 (K : Nat), .bool true]) (by simp [results, Try.results27, go_sem, y0, y1]) rfl ?_
          have h := RR.out
          rw [HY.out] at h
          exact h

end Go.Proofs.Ytnfdncofobkjhaa

/- Contracts of the model's TotalIn and PictureOf. -/
namespace Go.Proofs.Ytnfdncofobkjhaa
open Go.RowKit

set_option maxRecDepth 100000 in
set_option maxHeartbeats 4000000 in
theorem specPictureOf (a0 : Option Addr) (n0 c0 : Nat) (a1 : Option Addr) (n1 c1 : Nat) (ps : List TProc) (ws : List TWire) (w : World) (h0 : ps.length = n0) (h1 : ws.length = n1) (hb0 : n0 ≤ 1048576) (hb1 : n1 ≤ 1048576) (hsm : ∀ (i : Nat) (x : TWire), ws[i]? = some x → costWire x ≤ 1048576) (ha0 : AtSl RProc w a0 ps) (ha1 : AtSl RWire w a1 ws) :
    Calls Try.prog 47 #[.agg #[.slice a0 n0 c0, .slice a1 n1 c1]] w fun e w' => e = .returned (.tuple #[.int .i64 (if picB (ps, ws) then recS (ps, ws) else 0), .bool (picB (ps, ws))]) ∧ Below w.heap.size w w' := by
  have HV : Hid (picB (ps, ws) = (gsB (ps, ws) && ps.all (fun p => p.2.2) && ws.all (fun v => !v.2.2))) := Hid.mk rfl
  have HS : Hid (∀ k, PsOk ps → 0 ≤ sumTo (fun p : TProc => p.2.1) ps k ∧ sumTo (fun p : TProc => p.2.1) ps k ≤ 2000000000 * k) := Hid.mk (fun k hp => sumTo_le _ (by omega) (fun p h => by have := hp p h; omega) k)
  have HT : Hid (∀ k, WsOk ws → 0 ≤ sumTo (fun v : TWire => v.2.1.sum) ws k ∧ sumTo (fun v : TWire => v.2.1.sum) ws k ≤ 200000000 * k) := Hid.mk (fun k hw => sumTo_le _ (by omega) (fun v h => by have := hw v h; omega) k)
  have HP : Hid (sumTo (fun p : TProc => p.2.1) ps n0 = pSav ps) := Hid.mk (sumTo_all _ _ h0)
  have HQ : Hid (sumTo (fun v : TWire => v.2.1.sum) ws n1 = wRec ws) := Hid.mk (sumTo_all _ _ h1)
  have H0 := Hid.mk h0
  have H1 := Hid.mk h1
  obtain ⟨W, hW⟩ : ∃ W, W = w.alloc (.cells #[.slice a0 n0 c0, .slice a1 n1 c1] 32) := ⟨_, rfl⟩
  have B0 : Below w.heap.size w W := by rw [hW]; exact (Below.refl _ _).alloc (Nat.le_refl _) _
  have p0 : W.cell? ⟨w.heap.size, 0, none⟩ = some (.slice a0 n0 c0) := by rw [hW]; simp
  have p1 : W.cell? ⟨w.heap.size, 1, none⟩ = some (.slice a1 n1 c1) := by rw [hW]; simp
  have HA0 := Hid.mk (AtSl.below ha0 B0)
  have HA1 := Hid.mk (AtSl.below ha1 B0)
  have KG := Hid.mk (specGoodSnap a0 n0 c0 a1 n1 c1 ps ws W h0 h1 hb0 hb1 hsm HA0.out HA1.out)
  have HGP := Hid.mk (fun h => gs_parts h0 h1 h)
  clear ha0 ha1 h0 h1 hsm
  cases hg : gsB (ps, ws) with
  | false =>
    rw [hg] at KG
    rw [show picB (ps, ws) = false by rw [HV.out, hg]; rfl]
    go_enter Try.func47, Try.ntmps47
    go_wp2_with fail
    rw [← hW]
    clear hW
    refine KG.out.mono ?_
    rintro e w1 ⟨rfl, hb1⟩
    have p0 := cell_later hb1 p0
    have p1 := cell_later hb1 p1
    have B1 := Hid.mk (B0.trans (hb1.mono B0.size))
    go_wp2
    refine bodyPost_ret (v := .tuple #[.int .i64 0, .bool false]) (by simp [results, Try.results47, go_sem]) rfl ⟨rfl, B1.out⟩
  | true =>
    obtain ⟨g1, g2, g3, g4, g5, g6, g7⟩ := HGP.out hg
    rw [hg] at KG
    have HPS := Hid.mk g5
    have HWS := Hid.mk g6
    have HS := Hid.mk (fun k => HS.out k g5)
    have HT := Hid.mk (fun k => HT.out k g6)
    clear HGP g3 g5 g6 g7
    obtain ⟨V, hV⟩ : ∃ V : Int, (if picB (ps, ws) = true then recS (ps, ws) else 0) = V := ⟨_, rfl⟩
    obtain ⟨PB, hPB⟩ : ∃ b, picB (ps, ws) = b := ⟨_, rfl⟩
    rw [hV, hPB]
    have HVV := Hid.mk hV
    have HPB := Hid.mk hPB
    clear hV hPB
    go_enter Try.func47, Try.ntmps47
    go_wp2_with fail
    rw [← hW]
    clear hW
    refine KG.out.mono ?_
    rintro e w1 ⟨rfl, hb1⟩
    have p0 := cell_later hb1 p0
    have p1 := cell_later hb1 p1
    have B1 := Hid.mk (B0.trans (hb1.mono B0.size))
    have HA0 := Hid.mk (AtSl.below HA0.out hb1)
    have HA1 := Hid.mk (AtSl.below HA1.out hb1)
    clear hb1 KG
    go_wp2_with fail
    go_loopw [4, 17] (fun q i wr => ∃ (k : Nat) (r : Int), k ≤ n0 ∧ i = .int .i64 k ∧ q = .int .i64 r ∧ r = sumTo (fun p : TProc => p.2.1) ps k ∧ ps.all (fun p => p.2.2) = (ps.drop k).all (fun p => p.2.2) ∧ Below w1.heap.size w1 wr) (fun _ i _ => n0 - (intOf i).toNat)
    case atStart => exact ⟨0, 0, Nat.zero_le _, rfl, rfl, (sumTo_zero _ _).symm, rfl, Below.refl _ _⟩
    case round =>
      obtain ⟨k, r, hk, rfl, rfl, hr, hd, hbw⟩ := hrel
      obtain ⟨wY, rfl⟩ : ∃ x, x = wr := ⟨_, rfl⟩
      by_cases hlt : k < n0
      · obtain ⟨b, off, rfl, _, hc⟩ := RProc.row (AtSl.below HA0.out hbw) (by have := H0.out; omega)
        obtain ⟨⟨z0, z1, bo⟩, hx⟩ : ∃ x, ps[k]? = some x := ⟨_, List.getElem?_eq_getElem (by have := H0.out; omega)⟩
        obtain ⟨y0, y1, y2, _⟩ := hc k _ hx
        have hs := sumTo_succ (fun p : TProc => p.2.1) hx
        have q1 := HS.out k
        have q2 := HS.out (k + 1)
        have hki : (k : Int) < (n0 : Int) := by omega
        simp only at hs y0 y1 y2
        have u0 : 0 ≤ r := by omega
        have u1 : r ≤ 9000000000 := by omega
        have u2 : 0 ≤ r + z1 := by omega
        have u3 : r + z1 ≤ 9000000000 := by omega
        have HR : Hid (r + z1 = sumTo (fun p : TProc => p.2.1) ps (k + 1)) := Hid.mk (by omega)
        rw [all_row hx] at hd
        have HD := Hid.mk hd
        clear hc hx hs q1 q2 hr hd
        cases bo with
        | false =>
          have HPF : Hid (picB (ps, ws) = false) := Hid.mk (by rw [HV.out, HD.out]; simp)
          go_wp2
          refine bodyPost_ret (v := .tuple #[.int .i64 0, .bool false]) (by simp [results, Try.results47, go_sem]) rfl ⟨by rw [← HVV.out, ← HPB.out, HPF.out]; rfl, B1.out.trans ((hbw.alloc hbw.size _).mono B1.out.size)⟩
        | true =>
          go_wp2
          go_roundw
          case rel => exact ⟨k + 1, _, by omega, by go_num, rfl, HR.out, by rw [HD.out]; rfl, hbw.alloc hbw.size _⟩
          case measure => simp [intOf]; omega
      · obtain rfl : k = n0 := by omega
        rw [HP.out] at hr
        have hp0 := HS.out k
        rw [HP.out] at hp0
        have p1 := cell_later hbw p1
        have u0 : 0 ≤ r := by omega
        have u1 : r ≤ 8000000000 := by omega
        have HR := Hid.mk hr
        have HA1 := Hid.mk (AtSl.below HA1.out hbw)
        have BY := Hid.mk (B1.out.trans (hbw.mono B1.out.size))
        have hdk : ps.all (fun p => p.2.2) = true := by rw [hd, List.drop_of_length_le (by have := H0.out; omega)]; rfl
        have HV2 : Hid (picB (ps, ws) = ws.all (fun v => !v.2.2)) := Hid.mk (by rw [HV.out, hg, hdk]; simp)
        clear hd hdk
        clear hr hp0 hbw
        go_wp2_with fail
        go_loopw [4, 32] (fun q i wr => ∃ (j : Nat) (s : Int), j ≤ n1 ∧ i = .int .i64 j ∧ q = .int .i64 s ∧ s = r + sumTo (fun v : TWire => v.2.1.sum) ws j ∧ ws.all (fun v => !v.2.2) = (ws.drop j).all (fun v => !v.2.2) ∧ Below wY.heap.size wY wr) (fun _ i _ => n1 - (intOf i).toNat)
        case atStart => exact ⟨0, r, Nat.zero_le _, rfl, rfl, by rw [sumTo_zero]; omega, rfl, Below.refl _ _⟩
        case round =>
          obtain ⟨j, s, hj, rfl, rfl, hs, hw, hbv⟩ := hrel
          obtain ⟨wZ, rfl⟩ : ∃ x, x = wr := ⟨_, rfl⟩
          by_cases hjt : j < n1
          · obtain ⟨b, off, rfl, hb, hc⟩ := RWire.row (AtSl.below HA1.out hbv) (by have := H1.out; omega)
            obtain ⟨⟨x0, x1, bo⟩, hx⟩ : ∃ x, ws[j]? = some x := ⟨_, List.getElem?_eq_getElem (by have := H1.out; omega)⟩
            obtain ⟨d0, m0, e0, d1, m1, e1, y0, y1, y2, ⟨t01, t02, t03, _⟩, ⟨t11, t12, t13, _⟩⟩ := hc j _ hx
            have hok := HWS.out _ (List.mem_of_getElem? hx)
            have hst := sumTo_succ (fun v : TWire => v.2.1.sum) hx
            have q1 := HT.out j
            have q2 := HT.out (j + 1)
            have hki : (j : Int) < (n1 : Int) := by omega
            simp only at hst hok y0 y1 y2 t01 t03 t11 t13
            obtain ⟨X, hX⟩ : ∃ X, X = wZ.alloc (.cells #[.slice d0 m0 e0, .slice d1 m1 e1, .bool bo] 76) := ⟨_, rfl⟩
            have bX : Below wZ.heap.size wZ X := by rw [hX]; exact (Below.refl _ _).alloc (Nat.le_refl _) _
            have v0 : X.cell? ⟨wZ.heap.size, 0, none⟩ = some (.slice d0 m0 e0) := by rw [hX]; simp
            have v1 : X.cell? ⟨wZ.heap.size, 1, none⟩ = some (.slice d1 m1 e1) := by rw [hX]; simp
            have v2 : X.cell? ⟨wZ.heap.size, 2, none⟩ = some (.bool bo) := by rw [hX]; simp
            have HD := Hid.mk (At.below t13 bX)
            have HL := Hid.mk t11
            have HI : Hid (∀ i', 0 ≤ sumTo (fun x : Int => x) x1 i' ∧ sumTo (fun x : Int => x) x1 i' ≤ 1000000 * i') := Hid.mk (sumTo_le _ (by omega) hok.2.2.2.2.2.2.2)
            have hlm : m1 ≤ 200 := by omega
            have u4 : 0 ≤ s := by omega
            have u5 : s ≤ 18000000000 := by omega
            have BX := Hid.mk (hbv.trans (bX.mono hbv.size))
            have HSQ := Hid.mk hs
            have HST := Hid.mk hst
            rw [all_row hx] at hw
            have HW := Hid.mk hw
            clear hw
            clear hc hx hst q1 q2 hs hok bX t01 t03 t11 t13
            cases bo with
            | true =>
              have HPF : Hid (picB (ps, ws) = false) := Hid.mk (by rw [HV2.out, HW.out]; simp)
              go_wp2
              refine bodyPost_ret (v := .tuple #[.int .i64 0, .bool false]) (by simp [results, Try.results47, go_sem]) rfl ⟨by rw [← HVV.out, ← HPB.out, HPF.out]; rfl, by rw [← hX]; exact BY.out.trans (BX.out.mono BY.out.size)⟩
            | false =>
              have HW3 : Hid (ws.all (fun v => !v.2.2) = (ws.drop (j + 1)).all (fun v => !v.2.2)) := Hid.mk (by rw [HW.out]; rfl)
              go_wp2_with fail
              rw [← hX]
              clear hX
              go_loopw [4, 41] (fun q i wr => ∃ (i' : Nat) (t : Int), i' ≤ m1 ∧ i = .int .i64 i' ∧ q = .int .i64 t ∧ t = s + sumTo (fun x : Int => x) x1 i' ∧ wr = X) (fun _ i _ => m1 - (intOf i).toNat)
              case atStart => exact ⟨0, s, Nat.zero_le _, rfl, rfl, by rw [sumTo_zero]; omega, rfl⟩
              case round =>
                obtain ⟨i', t, hi, rfl, rfl, hts, hwX⟩ := hrel
                obtain rfl := hwX.symm
                by_cases hit : i' < m1
                · obtain ⟨bb, offb, rfl, _, hcc⟩ := HD.out.some (by have := HL.out; omega)
                  obtain ⟨y, hy⟩ : ∃ y, x1[i']? = some y := ⟨_, List.getElem?_eq_getElem (by have := HL.out; omega)⟩
                  have hcx : X.cell? ⟨bb, offb + i', none⟩ = some (.int .i64 y) := by
                    have h9 := hcc i' (by have := HL.out; omega)
                    simpa [List.getD, hy] using h9
                  have hsu := sumTo_succ (fun x : Int => x) hy
                  have q1 := HI.out i'
                  have q2 := HI.out (i' + 1)
                  have hii : (i' : Int) < (m1 : Int) := by omega
                  have r0 : 0 ≤ t := by omega
                  have r1 : t ≤ 20000000000 := by omega
                  have r2 : 0 ≤ t + y := by omega
                  have r3 : t + y ≤ 20000000000 := by omega
                  have HS3 : Hid (t + y = s + sumTo (fun x : Int => x) x1 (i' + 1)) := Hid.mk (by omega)
                  clear hcc hy hsu q1 q2 hts
                  go_wp2
                  go_roundw
                  case rel => exact ⟨i' + 1, _, by omega, by go_num, rfl, HS3.out, (by first | exact rfl | trivial)⟩
                  case measure => simp [intOf]; omega
                · obtain rfl : i' = m1 := by omega
                  have HS4 : Hid (t = r + sumTo (fun v : TWire => v.2.1.sum) ws (j + 1)) := Hid.mk (by
                    have q9 := sumTo_all (fun x : Int => x) x1 HL.out
                    have q8 : (x1.map (fun x : Int => x)).sum = x1.sum := by simp
                    have q7 := HSQ.out
                    have q6 := HST.out
                    omega)
                  clear hts
                  go_wp2
                  go_roundw
                  case rel => exact ⟨j + 1, _, by omega, by go_num, rfl, HS4.out, HW3.out, BX.out⟩
                  case measure => simp [intOf]; omega
          · obtain rfl : j = n1 := by omega
            rw [HQ.out] at hs
            have hA : s = recS (ps, ws) := by rw [hs, HR.out]; rfl
            have HAS := Hid.mk hA
            have BZ := Hid.mk (BY.out.trans (hbv.mono BY.out.size))
            have HPF : Hid (picB (ps, ws) = true) := Hid.mk (by rw [HV2.out, hw, List.drop_of_length_le (by have := H1.out; omega)]; rfl)
            clear hw
            clear hs hA hbv
            go_wp2
            refine bodyPost_ret (v := .tuple #[.int .i64 s, .bool true]) (by simp [results, Try.results47, go_sem]) rfl ⟨by rw [← HVV.out, ← HPB.out, HPF.out]; rw [HAS.out]; rfl, BZ.out⟩

end Go.Proofs.Ytnfdncofobkjhaa
