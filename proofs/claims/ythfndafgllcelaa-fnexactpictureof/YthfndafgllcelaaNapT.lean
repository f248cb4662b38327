/- Contracts of the program's TotalIn and PictureOf. -/
import Derived.Test.YthfndafgllcelaaNapG
import Derived.Test.YthfndafgllcelaaNapR
namespace Go.Proofs.Ythfndafgllcelaa
open Go.RowKit

set_option maxRecDepth 100000 in
set_option maxHeartbeats 4000000 in
theorem implTotalIn (a0 : Option Addr) (n0 c0 : Nat) (a1 : Option Addr) (n1 c1 : Nat) (ps : List TProc) (ws : List TWire) (w : World) (h0 : ps.length = n0) (h1 : ws.length = n1) (hb0 : n0 ≤ 1048576) (hb1 : n1 ≤ 1048576) (ha0 : AtSl RProc w a0 ps) (ha1 : AtSl RWire w a1 ws) :
    Calls Try.prog 34 #[.agg #[.slice a0 n0 c0, .slice a1 n1 c1]] w fun e w' => e = .returned (.tuple #[.int .i64 (if gsB (ps, ws) then amtS (ps, ws) else 0), .bool (gsB (ps, ws))]) ∧ Below w.heap.size w w' := by
  have H0 := Hid.mk h0
  have H1 := Hid.mk h1
  obtain ⟨W, hW⟩ : ∃ W, W = w.alloc (.cells #[.slice a0 n0 c0, .slice a1 n1 c1] 26) := ⟨_, rfl⟩
  have B0 : Below w.heap.size w W := by rw [hW]; exact (Below.refl _ _).alloc (Nat.le_refl _) _
  have p0 : W.cell? ⟨w.heap.size, 0, none⟩ = some (.slice a0 n0 c0) := by rw [hW]; simp
  have p1 : W.cell? ⟨w.heap.size, 1, none⟩ = some (.slice a1 n1 c1) := by rw [hW]; simp
  have HA0 := Hid.mk (AtSl.below ha0 B0)
  have HA1 := Hid.mk (AtSl.below ha1 B0)
  have KG := Hid.mk (implGoodSnap a0 n0 c0 a1 n1 c1 ps ws W h0 h1 hb0 hb1 HA0.out HA1.out)
  have HGP := Hid.mk (fun h => gs_parts h0 h1 h)
  clear ha0 ha1 h0 h1
  cases hg : gsB (ps, ws) with
  | false =>
    rw [hg] at KG
    go_enter Try.func34, Try.ntmps34
    go_wp2_with fail
    rw [← hW]
    clear hW
    refine KG.out.mono ?_
    rintro e w1 ⟨rfl, hb1⟩
    have p0 := cell_later hb1 p0
    have p1 := cell_later hb1 p1
    have B1 := Hid.mk (B0.trans (hb1.mono B0.size))
    go_wp2
    refine bodyPost_ret (v := .tuple #[.int .i64 0, .bool false]) (by simp [results, Try.results34, go_sem]) rfl ⟨rfl, B1.out⟩
  | true =>
    obtain ⟨g1, g2, g3, g4, g5, g6, g7⟩ := HGP.out hg
    rw [hg] at KG
    have KA := Hid.mk (fun w hw => amountsIn_any a0 n0 c0 a1 n1 c1 ps ws w H0.out H1.out g2 g4 g5 g6 (AtSl.below HA0.out hw) (AtSl.below HA1.out hw))
    have hA : amtS (ps, ws) = pAmt ps + wAmt ws := rfl
    rw [← hA] at KA
    obtain ⟨A, hA2⟩ : ∃ A, amtS (ps, ws) = A := ⟨_, rfl⟩
    rw [hA2] at KA ⊢
    clear hA hA2 HGP g5 g6 g7 g3
    go_enter Try.func34, Try.ntmps34
    go_wp2_with fail
    rw [← hW]
    clear hW
    refine KG.out.mono ?_
    rintro e w1 ⟨rfl, hb1⟩
    have p0 := cell_later hb1 p0
    have p1 := cell_later hb1 p1
    have B1 := Hid.mk (B0.trans (hb1.mono B0.size))
    go_wp2_with fail
    refine (KA.out _ hb1).mono ?_
    rintro e w2 ⟨rfl, hb2⟩
    have B2 := Hid.mk (B1.out.trans (hb2.mono B1.out.size))
    clear hb1 hb2 KA KG
    go_wp2
    refine bodyPost_ret (v := .tuple #[.int .i64 (A), .bool true]) (by simp [results, Try.results34, go_sem]) rfl ⟨rfl, B2.out⟩

set_option maxRecDepth 100000 in
set_option maxHeartbeats 4000000 in
theorem implPictureOf (a0 : Option Addr) (n0 c0 : Nat) (a1 : Option Addr) (n1 c1 : Nat) (ps : List TProc) (ws : List TWire) (w : World) (h0 : ps.length = n0) (h1 : ws.length = n1) (hb0 : n0 ≤ 1048576) (hb1 : n1 ≤ 1048576) (ha0 : AtSl RProc w a0 ps) (ha1 : AtSl RWire w a1 ws) :
    Calls Try.prog 36 #[.agg #[.slice a0 n0 c0, .slice a1 n1 c1]] w fun e w' => e = .returned (.tuple #[.int .i64 (if picB (ps, ws) then recS (ps, ws) else 0), .bool (picB (ps, ws))]) ∧ Below w.heap.size w w' := by
  have HV : Hid (picB (ps, ws) = (gsB (ps, ws) && ps.all (fun p => p.2.2) && ws.all (fun v => !v.2.2))) := Hid.mk rfl
  have H0 := Hid.mk h0
  have H1 := Hid.mk h1
  obtain ⟨W, hW⟩ : ∃ W, W = w.alloc (.cells #[.slice a0 n0 c0, .slice a1 n1 c1] 26) := ⟨_, rfl⟩
  have B0 : Below w.heap.size w W := by rw [hW]; exact (Below.refl _ _).alloc (Nat.le_refl _) _
  have p0 : W.cell? ⟨w.heap.size, 0, none⟩ = some (.slice a0 n0 c0) := by rw [hW]; simp
  have p1 : W.cell? ⟨w.heap.size, 1, none⟩ = some (.slice a1 n1 c1) := by rw [hW]; simp
  have HA0 := Hid.mk (AtSl.below ha0 B0)
  have HA1 := Hid.mk (AtSl.below ha1 B0)
  have KG := Hid.mk (implGoodSnap a0 n0 c0 a1 n1 c1 ps ws W h0 h1 hb0 hb1 HA0.out HA1.out)
  have HGP := Hid.mk (fun h => gs_parts h0 h1 h)
  clear ha0 ha1 h0 h1
  cases hg : gsB (ps, ws) with
  | false =>
    rw [hg] at KG HV
    rw [show picB (ps, ws) = false by rw [HV.out]; rfl]
    go_enter Try.func36, Try.ntmps36
    go_wp2_with fail
    rw [← hW]
    clear hW
    refine KG.out.mono ?_
    rintro e w1 ⟨rfl, hb1⟩
    have p0 := cell_later hb1 p0
    have p1 := cell_later hb1 p1
    have B1 := Hid.mk (B0.trans (hb1.mono B0.size))
    go_wp2
    refine bodyPost_ret (v := .tuple #[.int .i64 0, .bool false]) (by simp [results, Try.results36, go_sem]) rfl ⟨rfl, B1.out⟩
  | true =>
    obtain ⟨g1, g2, g3, g4, g5, g6, g7⟩ := HGP.out hg
    rw [hg] at KG HV
    have KA := Hid.mk (fun w hw => recordedIn_any a0 n0 c0 a1 n1 c1 ps ws w H0.out H1.out g2 g4 g5 g6 (AtSl.below HA0.out hw) (AtSl.below HA1.out hw))
    have hA : recS (ps, ws) = pSav ps + wRec ws := rfl
    rw [← hA] at KA
    obtain ⟨A, hA2⟩ : ∃ A, recS (ps, ws) = A := ⟨_, rfl⟩
    rw [hA2] at KA ⊢
    clear hA hA2 HGP g5 g6 g7 g3
    cases hd : ps.all (fun p => p.2.2) with
    | false =>
      rw [hd] at HV
      rw [show picB (ps, ws) = false by rw [HV.out]; rfl]
      go_enter Try.func36, Try.ntmps36
      go_wp2_with fail
      rw [← hW]
      clear hW
      refine KG.out.mono ?_
      rintro e w1 ⟨rfl, hb1⟩
      have p0 := cell_later hb1 p0
      have p1 := cell_later hb1 p1
      have B1 := Hid.mk (B0.trans (hb1.mono B0.size))
      have KP := Hid.mk (containsProc_any 62 (fun p => !p.2.2) (fun _ _ => rfl) (fun z0 z1 b w => isNotDone_any z0 z1 b w) a0 n0 c0 ps w1 H0.out (by omega) (AtSl.below HA0.out hb1))
      rw [any_not (fun p : TProc => p.2.2)] at KP
      rw [hd] at KP
      go_wp2_with fail
      refine KP.out.mono ?_
      rintro e w2 ⟨rfl, hb2⟩
      have p0 := cell_later hb2 p0
      have p1 := cell_later hb2 p1
      have B2 := Hid.mk (B1.out.trans (hb2.mono B1.out.size))
      go_wp2
      refine bodyPost_ret (v := .tuple #[.int .i64 0, .bool false]) (by simp [results, Try.results36, go_sem]) rfl ⟨rfl, B2.out⟩
    | true =>
      rw [hd] at HV
      cases hw : ws.all (fun v => !v.2.2) with
      | false =>
        rw [hw] at HV
        rw [show picB (ps, ws) = false by rw [HV.out]; rfl]
        go_enter Try.func36, Try.ntmps36
        go_wp2_with fail
        rw [← hW]
        clear hW
        refine KG.out.mono ?_
        rintro e w1 ⟨rfl, hb1⟩
        have p0 := cell_later hb1 p0
        have p1 := cell_later hb1 p1
        have B1 := Hid.mk (B0.trans (hb1.mono B0.size))
        have KP := Hid.mk (containsProc_any 62 (fun p => !p.2.2) (fun _ _ => rfl) (fun z0 z1 b w => isNotDone_any z0 z1 b w) a0 n0 c0 ps w1 H0.out (by omega) (AtSl.below HA0.out hb1))
        rw [any_not (fun p : TProc => p.2.2)] at KP
        rw [hd] at KP
        go_wp2_with fail
        refine KP.out.mono ?_
        rintro e w2 ⟨rfl, hb2⟩
        have p0 := cell_later hb2 p0
        have p1 := cell_later hb2 p1
        have B2 := Hid.mk (B1.out.trans (hb2.mono B1.out.size))
        have KW := Hid.mk (containsWire_any 64 (fun v => v.2.2) (fun _ _ => rfl) (fun a0 n0 c0 a1 n1 c1 b x0 x1 w _ _ => isOpen_any a0 n0 c0 a1 n1 c1 b w) a1 n1 c1 ws w2 H1.out (by omega) (AtSl.below HA1.out (hb1.trans (hb2.mono hb1.size))))
        have hwo : ws.any (fun v => v.2.2) = !ws.all (fun v => !v.2.2) := by rw [← any_not (fun v : TWire => !v.2.2)]; simp
        rw [hwo] at KW
        rw [hw] at KW
        go_wp2_with fail
        refine KW.out.mono ?_
        rintro e w3 ⟨rfl, hb3⟩
        have p0 := cell_later hb3 p0
        have p1 := cell_later hb3 p1
        have B3 := Hid.mk (B2.out.trans (hb3.mono B2.out.size))
        go_wp2
        refine bodyPost_ret (v := .tuple #[.int .i64 0, .bool false]) (by simp [results, Try.results36, go_sem]) rfl ⟨rfl, B3.out⟩
      | true =>
        rw [hw] at HV
        rw [show picB (ps, ws) = true by rw [HV.out]; rfl]
        go_enter Try.func36, Try.ntmps36
        go_wp2_with fail
        rw [← hW]
        clear hW
        refine KG.out.mono ?_
        rintro e w1 ⟨rfl, hb1⟩
        have p0 := cell_later hb1 p0
        have p1 := cell_later hb1 p1
        have B1 := Hid.mk (B0.trans (hb1.mono B0.size))
        have KP := Hid.mk (containsProc_any 62 (fun p => !p.2.2) (fun _ _ => rfl) (fun z0 z1 b w => isNotDone_any z0 z1 b w) a0 n0 c0 ps w1 H0.out (by omega) (AtSl.below HA0.out hb1))
        rw [any_not (fun p : TProc => p.2.2)] at KP
        rw [hd] at KP
        go_wp2_with fail
        refine KP.out.mono ?_
        rintro e w2 ⟨rfl, hb2⟩
        have p0 := cell_later hb2 p0
        have p1 := cell_later hb2 p1
        have B2 := Hid.mk (B1.out.trans (hb2.mono B1.out.size))
        have KW := Hid.mk (containsWire_any 64 (fun v => v.2.2) (fun _ _ => rfl) (fun a0 n0 c0 a1 n1 c1 b x0 x1 w _ _ => isOpen_any a0 n0 c0 a1 n1 c1 b w) a1 n1 c1 ws w2 H1.out (by omega) (AtSl.below HA1.out (hb1.trans (hb2.mono hb1.size))))
        have hwo : ws.any (fun v => v.2.2) = !ws.all (fun v => !v.2.2) := by rw [← any_not (fun v : TWire => !v.2.2)]; simp
        rw [hwo] at KW
        rw [hw] at KW
        go_wp2_with fail
        refine KW.out.mono ?_
        rintro e w3 ⟨rfl, hb3⟩
        have p0 := cell_later hb3 p0
        have p1 := cell_later hb3 p1
        have B3 := Hid.mk (B2.out.trans (hb3.mono B2.out.size))
        have b13 := hb1.trans ((hb2.trans (hb3.mono hb2.size)).mono hb1.size)
        go_wp2_with fail
        refine (KA.out _ b13).mono ?_
        rintro e w4 ⟨rfl, hb4⟩
        have B4 := Hid.mk (B3.out.trans (hb4.mono B3.out.size))
        clear hb1 hb2 hb3 hb4 b13 KA KG KP KW
        go_wp2
        refine bodyPost_ret (v := .tuple #[.int .i64 (A), .bool true]) (by simp [results, Try.results36, go_sem]) rfl ⟨rfl, B4.out⟩

end Go.Proofs.Ythfndafgllcelaa
