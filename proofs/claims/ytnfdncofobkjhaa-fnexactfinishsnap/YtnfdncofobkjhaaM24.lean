/- Several texts of one proof, in build order: SvZ, SpS, SteG. -/
import Derived.Test.YtnfdncofobkjhaaM22
import Derived.Test.YtnfdncofobkjhaaM23
import Derived.Test.YtnfdncofobkjhaaM15
import Derived.Test.YtnfdncofobkjhaaM11
import Derived.Test.YtnfdncofobkjhaaM3

/- Contract of the model's StepSnap. -/
namespace Go.Proofs.Ytnfdncofobkjhaa
open Go.RowKit

theorem set_bound {M : Nat} {ws : List TWire} (h : ∀ (i : Nat) (x : TWire), ws[i]? = some x → x.1.length ≤ M ∧ x.2.1.length ≤ M) (k : Nat) {x : TWire} (hx : x.1.length ≤ M ∧ x.2.1.length ≤ M) : ∀ (i : Nat) (y : TWire), (ws.set k x)[i]? = some y → y.1.length ≤ M ∧ y.2.1.length ≤ M := fun i y hy => by
  rw [List.getElem?_set] at hy
  split at hy
  · split at hy
    · obtain rfl := Option.some.inj hy; exact hx
    · cases hy
  · exact h i y hy
theorem wirAt_bound {M : Nat} {ws : List TWire} (h : ∀ (i : Nat) (x : TWire), ws[i]? = some x → x.1.length ≤ M ∧ x.2.1.length ≤ M) (k : Nat) : (wirAt ws k).1.length ≤ M ∧ (wirAt ws k).2.1.length ≤ M := by
  by_cases hk : k < ws.length
  · exact h k _ (wirAt_some hk)
  · unfold wirAt
    rw [List.getD_eq_getElem?_getD, List.getElem?_eq_none (by omega)]
    exact ⟨Nat.zero_le _, Nat.zero_le _⟩
theorem svF_bound {n who : Nat} : ∀ (m k : Nat) {M : Nat} (ws : List TWire), (∀ (i : Nat) (x : TWire), ws[i]? = some x → x.1.length ≤ M ∧ x.2.1.length ≤ M) → ∀ (i : Nat) (x : TWire), (svF n who m k ws).2[i]? = some x → x.1.length ≤ M + m ∧ x.2.1.length ≤ M + m
  | 0, _, _, _, h => h
  | m + 1, k, M, ws, h => by
    unfold svF
    have hs : ∀ (i : Nat) (x : TWire), (svS n who k ws).2[i]? = some x → x.1.length ≤ M + 1 ∧ x.2.1.length ≤ M + 1 := by
      have h1 : ∀ (i : Nat) (x : TWire), ws[i]? = some x → x.1.length ≤ M + 1 ∧ x.2.1.length ≤ M + 1 := fun i x hx => by have := h i x hx; omega
      unfold svS
      split
      · exact h1
      · split
        · have a := wirAt_bound h (k * n + who)
          have b := wirAt_bound h (who * n + k)
          exact set_bound (set_bound h1 _ (by simp only; omega)) _ (by simp only [List.length_append, List.length_cons, List.length_nil]; omega)
        · exact h1
    split
    · intro i x hx
      have := svF_bound m (k + 1) (M := M + 1) _ hs i x hx
      omega
    · intro i x hx
      have := h i x hx
      omega
theorem mkW_bound {M : Nat} {ws : List TWire} (h : ∀ (i : Nat) (x : TWire), ws[i]? = some x → x.1.length ≤ M ∧ x.2.1.length ≤ M) (B : Nat) : ∀ (i : Nat) (x : TWire), (mkW ws B)[i]? = some x → x.1.length ≤ M ∧ x.2.1.length ≤ M :=
  set_bound h B (x := ((wirAt ws B).1, (wirAt ws B).2.1, false)) (wirAt_bound h B)
theorem step_small {n : Nat} {kd f t v : Int} {ps : List TProc} {ws : List TWire} {s : Bool × List TProc × List TWire} (hn : n ≤ 4) (hw : WsOk ws) (hs : stS n kd f t v ps ws = s) : ∀ (i : Nat) (x : TWire), s.2.2[i]? = some x → costWire x ≤ 1048576 := by
  have h : ∀ (i : Nat) (x : TWire), ws[i]? = some x → x.1.length ≤ 200 ∧ x.2.1.length ≤ 200 := fun i x hx => by
    have := hw x (List.mem_of_getElem? hx)
    omega
  have hup : ∀ {M : Nat} {l : List TWire}, M ≤ 300 → (∀ (i : Nat) (x : TWire), l[i]? = some x → x.1.length ≤ M ∧ x.2.1.length ≤ M) → ∀ (i : Nat) (x : TWire), l[i]? = some x → x.1.length ≤ 300 ∧ x.2.1.length ≤ 300 := fun hM hl i x hx => by
    have := hl i x hx
    omega
  suffices key : ∀ (i : Nat) (x : TWire), s.2.2[i]? = some x → x.1.length ≤ 300 ∧ x.2.1.length ≤ 300 from fun i x hx => by
    have := key i x hx
    unfold costWire
    omega
  subst hs
  unfold stS
  split
  · split
    · have a := wirAt_bound h (f.toNat * n + t.toNat)
      exact set_bound (hup (by omega) h) _ (by simp only [List.length_append, List.length_cons, List.length_nil]; omega)
    · exact hup (by omega) h
  split
  · split
    · have a := wirAt_bound h (f.toNat * n + t.toNat)
      unfold tkF
      split
      · exact hup (by omega) h
      · split
        · exact hup (by omega) h
        · rename_i _ _ u us hu
          have hus : us.length ≤ 200 := by rw [hu] at a; simp only [List.length_cons] at a; omega
          have h2 : ∀ (i : Nat) (x : TWire), (ws.set (f.toNat * n + t.toNat) (us, (wirAt ws (f.toNat * n + t.toNat)).2))[i]? = some x → x.1.length ≤ 200 ∧ x.2.1.length ≤ 200 := set_bound h _ ⟨hus, a.2⟩
          split
          · simp only
            unfold mkF
            split
            · exact mkW_bound (hup (by omega) h2) _
            · exact mkW_bound (hup (by omega) (svF_bound n 0 _ h2)) _
          · simp only
            split
            · exact set_bound (hup (by omega) h) _ (by simp only [List.length_append, List.length_cons, List.length_nil]; omega)
            · exact hup (by omega) h2
    · exact hup (by omega) h
  split
  · split
    · exact hup (by omega) (svF_bound n 0 _ h)
    · exact hup (by omega) h
  · exact hup (by omega) h
set_option maxRecDepth 100000 in
set_option maxHeartbeats 8000000 in
theorem specStepSnap (a0 : Option Addr) (n0 c0 : Nat) (a1 : Option Addr) (n1 c1 : Nat) (kd f t v : Int) (ps : List TProc) (ws : List TWire) (w : World) (h0 : ps.length = n0) (h1 : ws.length = n1) (hb0 : n0 ≤ 1048576) (hb1 : n1 ≤ 1048576) (hsm : ∀ (i : Nat) (x : TWire), ws[i]? = some x → costWire x ≤ 1048576) (ha0 : AtSl RProc w a0 ps) (ha1 : AtSl RWire w a1 ws) :
    Calls Try.prog 7 #[.agg #[.slice a0 n0 c0, .slice a1 n1 c1], .agg #[.int .i64 kd, .int .i64 f, .int .i64 t, .int .i64 v]] w fun e w' => SnapRet e w' w.heap.size (spB (ps, ws) kd f t v) (spX (ps, ws) kd f t v) ∧ Below w.heap.size w w' := by
  obtain ⟨W1, hW1⟩ : ∃ W, W = w.alloc (.cells #[.slice a0 n0 c0, .slice a1 n1 c1] 32) := ⟨_, rfl⟩
  obtain ⟨W2, hW2⟩ : ∃ W, W = W1.alloc (.cells #[.int .i64 kd, .int .i64 f, .int .i64 t, .int .i64 v] 36) := ⟨_, rfl⟩
  obtain ⟨W, hW⟩ : ∃ W, W = W2.alloc (.cells #[.slice none 0 0, .slice none 0 0] 32) := ⟨_, rfl⟩
  have z1 : W1.heap.size = w.heap.size + 1 := by rw [hW1]; simp
  have z2 : W2.heap.size = w.heap.size + 2 := by rw [hW2]; simp [z1]
  have zW : W.heap.size = w.heap.size + 3 := by rw [hW]; simp [z2]
  have B01 : Below w.heap.size w W1 := by rw [hW1]; exact (Below.refl _ _).alloc (Nat.le_refl _) _
  have B12 : Below W1.heap.size W1 W2 := by rw [hW2]; exact (Below.refl _ _).alloc (Nat.le_refl _) _
  have B23 : Below W2.heap.size W2 W := by rw [hW]; exact (Below.refl _ _).alloc (Nat.le_refl _) _
  have bb : W.heap[w.heap.size]? = some (.cells #[.slice a0 n0 c0, .slice a1 n1 c1] 32 (0, 0)) := blk_below (blk_below (by rw [hW1]; exact heap_alloc_new w _) B12) B23
  have bx : W.heap[w.heap.size + 1]? = some (.cells #[.int .i64 kd, .int .i64 f, .int .i64 t, .int .i64 v] 36 (0, 0)) := blk_below (by rw [hW2, ← z1]; exact heap_alloc_new W1 _) B23
  have br : W.heap[w.heap.size + 2]? = some (.cells #[.slice none 0 0, .slice none 0 0] 32 (0, 0)) := by rw [hW, ← z2]; exact heap_alloc_new W2 _
  have B0 : Below w.heap.size w W := B01.trans ((B12.mono (by omega)).trans (B23.mono (by omega)))
  have hWW : W = ((w.alloc (.cells #[.slice a0 n0 c0, .slice a1 n1 c1] 32)).alloc (.cells #[.int .i64 kd, .int .i64 f, .int .i64 t, .int .i64 v] 36)).alloc (.cells #[.slice none 0 0, .slice none 0 0] 32) := by rw [hW, hW2, hW1]
  clear B01 B12 B23 hW hW1 hW2 z1 z2 W1 W2
  obtain ⟨PB, hPB⟩ : ∃ b, gsB (ps, ws) = b := ⟨_, rfl⟩
  obtain ⟨XB, hXB⟩ : ∃ b, spB (ps, ws) kd f t v = b := ⟨_, rfl⟩
  obtain ⟨XX, hXX⟩ : ∃ b, spX (ps, ws) kd f t v = b := ⟨_, rfl⟩
  have KG := Hid.mk (specGoodSnap a0 n0 c0 a1 n1 c1 ps ws W h0 h1 hb0 hb1 hsm (AtSl.below ha0 B0) (AtSl.below ha1 B0))
  rw [hPB] at KG
  rw [hXB, hXX]
  have HPB := Hid.mk hPB
  have HXB := Hid.mk hXB
  have HXX := Hid.mk hXX
  have H0 := Hid.mk h0
  have H1 := Hid.mk h1
  have HSM := Hid.mk hsm
  have HA0 := Hid.mk (AtSl.below ha0 B0)
  have HA1 := Hid.mk (AtSl.below ha1 B0)
  clear ha0 ha1 h0 h1 hsm hPB hXB hXX
  have q0 := blk_cell bb 0 (v := .slice a0 n0 c0) rfl
  have q1 := blk_cell bb 1 (v := .slice a1 n1 c1) rfl
  go_enter Try.func7, Try.ntmps7
  go_upto_region 1 with fail
  rw [← hWW]
  clear hWW
  go_wp2_with fail
  refine KG.out.mono ?_
  rintro e w1 ⟨rfl, hb1'⟩
  have bb := blk_below bb hb1'
  have bx := blk_below bx hb1'
  have br := blk_below br hb1'
  have z1 := hb1'.size
  have B1 := B0.trans (hb1'.mono B0.size)
  have HA0 := Hid.mk (AtSl.below HA0.out hb1')
  have HA1 := Hid.mk (AtSl.below HA1.out hb1')
  clear hb1' KG q0 q1
  cases PB with
  | false =>
    have hB0 : spB (ps, ws) kd f t v = false := by unfold spB; rw [HPB.out]; rfl
    obtain rfl : false = XB := by rw [← HXB.out, hB0]
    obtain rfl : (([], []) : TSnap) = XX := by rw [← HXX.out]; unfold spX; rw [hB0]; rfl
    clear hB0
    have y0 := blk_cell br 0 (v := .slice none 0 0) rfl
    have y1 := blk_cell br 1 (v := .slice none 0 0) rfl
    have fz0 := blk_frozen br 0
    have fz1 := blk_frozen br 1
    go_wp2
    refine bodyPost_ret (v := .tuple #[.agg #[.slice none 0 0, .slice none 0 0], .bool false]) (by simp [results, Try.results7, go_sem, y0, y1]) rfl ⟨⟨none, 0, 0, none, 0, 0, rfl, RSnap.nil _ _⟩, ?_⟩
    exact (B1.setCell (by show w.heap.size ≤ w.heap.size + 2; omega) _).setCell (by show w.heap.size ≤ w.heap.size + 2; omega) _
  | true =>
    obtain ⟨g2, g4, gn, g16, gp, gw, _⟩ := gs_parts H0.out H1.out HPB.out
    have KC : Hid (∀ u, Below w1.heap.size w1 u → _) := Hid.mk (fun u hu => l15Own_any a0 n0 c0 a1 n1 c1 ps ws u H0.out H1.out (by omega) g4 (by rw [gn]; exact Nat.mul_pos (by omega) (by omega)) g16 (wire_small gw) (AtSl.below HA0.out hu) (AtSl.below HA1.out hu))
    have HGN := Hid.mk gn
    have HGP := Hid.mk gp
    have HGW := Hid.mk gw
    have hst : stT (ps, ws) kd f t v = stS n0 kd f t v ps ws := by unfold stT; simp only [H0.out]
    have hsl := stT_len (ps, ws) kd f t v
    rw [hst] at hsl
    obtain ⟨⟨OK, PS, WS⟩, hS⟩ : ∃ y, stS n0 kd f t v ps ws = y := ⟨_, rfl⟩
    rw [hS] at hsl hst
    have HST := Hid.mk hst
    have HSS := Hid.mk hS
    clear gn gp gw hS hst hsl
    have q0 := blk_cell bb 0 (v := .slice a0 n0 c0) rfl
    have q1 := blk_cell bb 1 (v := .slice a1 n1 c1) rfl
    have x0 := blk_cell bx 0 (v := .int .i64 kd) rfl
    have x1 := blk_cell bx 1 (v := .int .i64 f) rfl
    have x2 := blk_cell bx 2 (v := .int .i64 t) rfl
    have x3 := blk_cell bx 3 (v := .int .i64 v) rfl
    go_upto_region 3 with fail
    go_cut [6, 7] (fun p b wx => ∃ (P g0 d0 g1 d1 : Nat), p = .pointer (some ⟨P, 0, none⟩) ∧ b = .bool OK ∧ wx.heap[P]? = some (.cells #[.slice (some ⟨g0, 0, none⟩) n0 d0, .slice (some ⟨g1, 0, none⟩) n1 d1] 32 (0, 0)) ∧ (OK = true → ∃ cells0 cells1 G, SV wx (fun b => w1.heap.size ≤ b ∧ b ≠ P) g0 n0 d0 g1 n1 d1 PS WS cells0 cells1 G) ∧ Below w1.heap.size w1 wx ∧ w1.heap.size ≤ P ∧ P < wx.heap.size)
    case first =>
      refine wp_region_held_drew (S := fun w' => Below w1.heap.size w1 w') (by kernel_rfl) ?_ (fun hHeld => ?_)
      · (try dsimp only)
        exact (Below.refl _ _).drew
      refine tk 0 ?_ (hy := fun wS hSw => by (have q0 := cell_later hSw q0; have q1 := cell_later hSw q1; go_simp; (try with_reducible rfl)))
      refine tk 2 ?_ (hy := fun wS hSw => by (have x0 := cell_later hSw x0; have x1 := cell_later hSw x1; have x2 := cell_later hSw x2; have x3 := cell_later hSw x3; go_simp; (try with_reducible rfl)))
      obtain ⟨ud, hud⟩ : ∃ z, z = w1.drew := ⟨_, rfl⟩
      have Yd : Below w1.heap.size w1 ud := by rw [hud]; exact (Below.refl _ _).drew
      have zud := Yd.size
      rw [← hud]
      clear hud
      refine wpAnyH_ready (rs := [1, 7]) (by kernel_rfl) (by simp) ?_
      refine AllReadyH.cons (o := ?_) ?_ (fun K hK => ?_) ?_
      rotate_left
      · (simp only [List.getElem?_toArray, List.getElem?_cons_zero, List.getElem?_cons_succ]; rfl)
      · go_simp
        go_at_call 32
        refine (KC.out ud Yd).mono ?_
        rintro e wb1 ⟨g0, d0, g1, d1, cs0, cs1, G, rfl, hsv, hbwb1⟩
        have HBwb1 : Below w1.heap.size w1 wb1 := Yd.trans (hbwb1.mono Yd.size)
        have HSV := Hid.mk (SV.mono (lo' := fun b => w1.heap.size ≤ b) hsv (fun b hb => by have h2 : ud.heap.size ≤ b := hb; show w1.heap.size ≤ b; omega))
        have zwb1 := hbwb1.size
        clear hsv hbwb1
        (try go_wp2_with fail)
        refine hK.out _ _ ?_ (fun hHeld' => ?_)
        · (try dsimp only)
          exact HBwb1
        clear hK K hHeld
        have hHeld := hHeld'
        clear hHeld'
        (try simp only [Act.put, List.setIfInBounds_toArray, List.set_cons_zero, List.set_cons_succ])
        refine wpAnyH_ready (rs := [3, 7]) (by kernel_rfl) (by simp) ?_
        refine AllReadyH.cons (o := ?_) ?_ (fun K hK => ?_) ?_
        rotate_left
        · (simp only [List.getElem?_toArray, List.getElem?_cons_zero, List.getElem?_cons_succ]; rfl)
        · go_simp
          go_at_call 31
          refine (l15Step_any (fun b => w1.heap.size ≤ b) g0 n0 d0 g1 n1 d1 kd f t v ps ws cs0 cs1 G wb1 g4 HGN.out HGP.out HGW.out HSV.out).mono ?_
          intro e wc2 hst3
          rw [HSS.out] at hst3
          obtain ⟨rfl, hO3, hsv3⟩ := hst3
          have HBwc2 : Below w1.heap.size w1 wc2 := HBwb1.trans (Off.belowOf hO3 (fun b h => h) HBwb1.size)
          have zwc2 := hO3.size
          have HSV3 := Hid.mk hsv3
          clear hO3 hsv3 HSV
          (try go_wp2_with fail)
          refine hK.out _ _ ?_ (fun hHeld' => ?_)
          · (try dsimp only)
            exact HBwc2
          clear hK K hHeld
          have hHeld := hHeld'
          clear hHeld'
          (try simp only [Act.put, List.setIfInBounds_toArray, List.set_cons_zero, List.set_cons_succ])
          refine tk 4 ?_
          refine tk 5 ?_
          refine tk 6 ?_
          refine wpAnyH_ready (rs := [7]) (by kernel_rfl) (by simp) ?_
          refine AllReadyH.cons (o := ?_) ?_ (fun K hK => ?_) AllReadyH.nil
          rotate_left
          · (simp only [List.getElem?_toArray, List.getElem?_cons_zero, List.getElem?_cons_succ]; rfl)
          go_simp
          (try go_wp2_with fail)
          refine hK.out _ _ ?_ (fun hHeld' => ?_)
          · (try dsimp only)
            exact HBwc2.alloc HBwc2.size _
          clear hK K hHeld
          have hHeld := hHeld'
          clear hHeld'
          (try simp only [Act.put, List.setIfInBounds_toArray, List.set_cons_zero, List.set_cons_succ])
          obtain ⟨wc3, hvwc3⟩ : ∃ zz, zz = wc2.alloc (.cells #[.slice none 0 0, .slice none 0 0] 32) := ⟨_, rfl⟩
          have hbwc3 : Below wc2.heap.size wc2 wc3 := by rw [hvwc3]; exact (Below.refl _ _).alloc (Nat.le_refl _) _
          have HBwc3 : Below w1.heap.size w1 wc3 := HBwc2.trans (hbwc3.mono HBwc2.size)
          have pb : wc3.heap[wc2.heap.size]? = some (.cells #[.slice none 0 0, .slice none 0 0] 32 (0, 0)) := by rw [hvwc3]; exact heap_alloc_new _ _
          have zwc3 : wc3.heap.size = wc2.heap.size + 1 := by rw [hvwc3]; simp
          have zlwc3 := HBwc2.size
          have HSV3 : Hid (OK = true → ∃ cells0 cells1 G, SV wc3 (fun b => w1.heap.size ≤ b ∧ b ≠ wc2.heap.size) g0 n0 d0 g1 n1 d1 PS WS cells0 cells1 G) := Hid.mk (fun h => by obtain ⟨qa, qb, qc, q⟩ := HSV3.out h; exact ⟨qa, qb, qc, SV.shun (P := wc2.heap.size) q (Nat.le_refl _) hbwc3 (by omega)⟩)
          rw [← hvwc3]
          clear hvwc3 hbwc3
          have yy0 := blk_cell pb 0 (v := .slice none 0 0) rfl
          have yy1 := blk_cell pb 1 (v := .slice none 0 0) rfl
          have fy0 := blk_frozen pb 0
          have fy1 := blk_frozen pb 1
          have HBE : Below w1.heap.size w1 ((wc3.setCell ⟨wc2.heap.size, 0, none⟩ (.slice (some ⟨g0, 0, none⟩) n0 d0)).setCell ⟨wc2.heap.size, 1, none⟩ (.slice (some ⟨g1, 0, none⟩) n1 d1)) := (HBwc3.setCell (by show w1.heap.size ≤ wc2.heap.size; omega) _).setCell (by show w1.heap.size ≤ wc2.heap.size; omega) _
          refine wpAnyH_ready (rs := [8]) (by kernel_rfl) (by simp) ?_
          refine AllReadyH.cons (o := ?_) ?_ (fun K hK => ?_) AllReadyH.nil
          rotate_left
          · (simp only [List.getElem?_toArray, List.getElem?_cons_zero, List.getElem?_cons_succ]; rfl)
          go_simp
          skip
          (try go_wp2_with fail)
          refine hK.out _ _ ?_ (fun hHeld' => ?_)
          · (try dsimp only)
            exact HBE
          clear hK K hHeld
          have hHeld := hHeld'
          clear hHeld'
          (try simp only [Act.put, List.setIfInBounds_toArray, List.set_cons_zero, List.set_cons_succ])
          refine tk 9 ?_
          refine wpAnyH_done (by kernel_rfl) ?_ _
          (try go_wp2_with fail)
          go_meet
          case rel =>
            refine ⟨wc2.heap.size, g0, d0, g1, d1, rfl, rfl, blk_set (blk_set pb 0 _) 1 _, fun h => ?_, HBE, by omega, by rw [size_set, size_set]; omega⟩
            obtain ⟨qa, qb, qc, q⟩ := HSV3.out h
            exact ⟨qa, qb, qc, SV.frame q (fun b hb hl => (Below.heap_setCell _ _ _ _ (by show b ≠ wc2.heap.size; exact hb.2)).trans (Below.heap_setCell _ _ _ _ (by show b ≠ wc2.heap.size; exact hb.2))) (by rw [size_set, size_set]; exact Nat.le_refl _)⟩
        refine AllReadyH.cons (o := ?_) ?_ (fun K hK => ?_) AllReadyH.nil
        rotate_left
        · (simp only [List.getElem?_toArray, List.getElem?_cons_zero, List.getElem?_cons_succ]; rfl)
        · go_simp
          (try go_wp2_with fail)
          refine hK.out _ _ ?_ (fun hHeld' => ?_)
          · (try dsimp only)
            exact HBwb1.alloc HBwb1.size _
          clear hK K hHeld
          have hHeld := hHeld'
          clear hHeld'
          (try simp only [Act.put, List.setIfInBounds_toArray, List.set_cons_zero, List.set_cons_succ])
          obtain ⟨wb2, hvwb2⟩ : ∃ zz, zz = wb1.alloc (.cells #[.slice none 0 0, .slice none 0 0] 32) := ⟨_, rfl⟩
          have hbwb2 : Below wb1.heap.size wb1 wb2 := by rw [hvwb2]; exact (Below.refl _ _).alloc (Nat.le_refl _) _
          have HBwb2 : Below w1.heap.size w1 wb2 := HBwb1.trans (hbwb2.mono HBwb1.size)
          have pb : wb2.heap[wb1.heap.size]? = some (.cells #[.slice none 0 0, .slice none 0 0] 32 (0, 0)) := by rw [hvwb2]; exact heap_alloc_new _ _
          have zwb2 : wb2.heap.size = wb1.heap.size + 1 := by rw [hvwb2]; simp
          have zlwb2 := HBwb1.size
          have HSV := Hid.mk (SV.shun (P := wb1.heap.size) HSV.out (Nat.le_refl _) hbwb2 (by omega))
          rw [← hvwb2]
          clear hvwb2 hbwb2
          refine wpAnyH_ready (rs := [3]) (by kernel_rfl) (by simp) ?_
          refine AllReadyH.cons (o := ?_) ?_ (fun K hK => ?_) AllReadyH.nil
          rotate_left
          · (simp only [List.getElem?_toArray, List.getElem?_cons_zero, List.getElem?_cons_succ]; rfl)
          go_simp
          go_at_call 31
          refine (l15Step_any (fun b => w1.heap.size ≤ b ∧ b ≠ wb1.heap.size) g0 n0 d0 g1 n1 d1 kd f t v ps ws cs0 cs1 G wb2 g4 HGN.out HGP.out HGW.out HSV.out).mono ?_
          intro e wb3 hst3
          rw [HSS.out] at hst3
          obtain ⟨rfl, hO3, hsv3⟩ := hst3
          have HBwb3 : Below w1.heap.size w1 wb3 := HBwb2.trans (Off.belowOf hO3 (fun b h => h.1) HBwb2.size)
          have zwb3 := hO3.size
          have HSV3 := Hid.mk hsv3
          have pb := (hO3.block wb1.heap.size (by omega) (fun h => h.2 rfl)).trans pb
          clear hO3 hsv3 HSV
          (try go_wp2_with fail)
          refine hK.out _ _ ?_ (fun hHeld' => ?_)
          · (try dsimp only)
            exact HBwb3
          clear hK K hHeld
          have hHeld := hHeld'
          clear hHeld'
          (try simp only [Act.put, List.setIfInBounds_toArray, List.set_cons_zero, List.set_cons_succ])
          refine tk 4 ?_
          refine tk 5 ?_
          refine tk 6 ?_
          have yy0 := blk_cell pb 0 (v := .slice none 0 0) rfl
          have yy1 := blk_cell pb 1 (v := .slice none 0 0) rfl
          have fy0 := blk_frozen pb 0
          have fy1 := blk_frozen pb 1
          have HBE : Below w1.heap.size w1 ((wb3.setCell ⟨wb1.heap.size, 0, none⟩ (.slice (some ⟨g0, 0, none⟩) n0 d0)).setCell ⟨wb1.heap.size, 1, none⟩ (.slice (some ⟨g1, 0, none⟩) n1 d1)) := (HBwb3.setCell (by show w1.heap.size ≤ wb1.heap.size; omega) _).setCell (by show w1.heap.size ≤ wb1.heap.size; omega) _
          refine wpAnyH_ready (rs := [8]) (by kernel_rfl) (by simp) ?_
          refine AllReadyH.cons (o := ?_) ?_ (fun K hK => ?_) AllReadyH.nil
          rotate_left
          · (simp only [List.getElem?_toArray, List.getElem?_cons_zero, List.getElem?_cons_succ]; rfl)
          go_simp
          skip
          (try go_wp2_with fail)
          refine hK.out _ _ ?_ (fun hHeld' => ?_)
          · (try dsimp only)
            exact HBE
          clear hK K hHeld
          have hHeld := hHeld'
          clear hHeld'
          (try simp only [Act.put, List.setIfInBounds_toArray, List.set_cons_zero, List.set_cons_succ])
          refine tk 9 ?_
          refine wpAnyH_done (by kernel_rfl) ?_ _
          (try go_wp2_with fail)
          go_meet
          case rel =>
            refine ⟨wb1.heap.size, g0, d0, g1, d1, rfl, rfl, blk_set (blk_set pb 0 _) 1 _, fun h => ?_, HBE, by omega, by rw [size_set, size_set]; omega⟩
            obtain ⟨qa, qb, qc, q⟩ := HSV3.out h
            exact ⟨qa, qb, qc, SV.frame q (fun b hb hl => (Below.heap_setCell _ _ _ _ (by show b ≠ wb1.heap.size; exact hb.2)).trans (Below.heap_setCell _ _ _ _ (by show b ≠ wb1.heap.size; exact hb.2))) (by rw [size_set, size_set]; exact Nat.le_refl _)⟩
      refine AllReadyH.cons (o := ?_) ?_ (fun K hK => ?_) AllReadyH.nil
      rotate_left
      · (simp only [List.getElem?_toArray, List.getElem?_cons_zero, List.getElem?_cons_succ]; rfl)
      · go_simp
        (try go_wp2_with fail)
        refine hK.out _ _ ?_ (fun hHeld' => ?_)
        · (try dsimp only)
          exact Yd.alloc Yd.size _
        clear hK K hHeld
        have hHeld := hHeld'
        clear hHeld'
        (try simp only [Act.put, List.setIfInBounds_toArray, List.set_cons_zero, List.set_cons_succ])
        obtain ⟨wa0, hvwa0⟩ : ∃ zz, zz = ud.alloc (.cells #[.slice none 0 0, .slice none 0 0] 32) := ⟨_, rfl⟩
        have hbwa0 : Below ud.heap.size ud wa0 := by rw [hvwa0]; exact (Below.refl _ _).alloc (Nat.le_refl _) _
        have HBwa0 : Below w1.heap.size w1 wa0 := Yd.trans (hbwa0.mono Yd.size)
        have pb : wa0.heap[ud.heap.size]? = some (.cells #[.slice none 0 0, .slice none 0 0] 32 (0, 0)) := by rw [hvwa0]; exact heap_alloc_new _ _
        have zwa0 : wa0.heap.size = ud.heap.size + 1 := by rw [hvwa0]; simp
        have zlwa0 := Yd.size
        rw [← hvwa0]
        clear hvwa0 hbwa0
        refine wpAnyH_ready (rs := [1]) (by kernel_rfl) (by simp) ?_
        refine AllReadyH.cons (o := ?_) ?_ (fun K hK => ?_) AllReadyH.nil
        rotate_left
        · (simp only [List.getElem?_toArray, List.getElem?_cons_zero, List.getElem?_cons_succ]; rfl)
        go_simp
        go_at_call 32
        refine (KC.out wa0 HBwa0).mono ?_
        rintro e wa1 ⟨g0, d0, g1, d1, cs0, cs1, G, rfl, hsv, hbwa1⟩
        have HBwa1 : Below w1.heap.size w1 wa1 := HBwa0.trans (hbwa1.mono HBwa0.size)
        have pb := blk_below pb hbwa1
        have HSV := Hid.mk (SV.mono (lo' := (fun b => w1.heap.size ≤ b ∧ b ≠ ud.heap.size)) hsv (fun b hb => by have h2 : wa0.heap.size ≤ b := hb; exact ⟨by show w1.heap.size ≤ b; omega, by omega⟩))
        have zwa1 := hbwa1.size
        clear hsv hbwa1
        (try go_wp2_with fail)
        refine hK.out _ _ ?_ (fun hHeld' => ?_)
        · (try dsimp only)
          exact HBwa1
        clear hK K hHeld
        have hHeld := hHeld'
        clear hHeld'
        (try simp only [Act.put, List.setIfInBounds_toArray, List.set_cons_zero, List.set_cons_succ])
        refine wpAnyH_ready (rs := [3]) (by kernel_rfl) (by simp) ?_
        refine AllReadyH.cons (o := ?_) ?_ (fun K hK => ?_) AllReadyH.nil
        rotate_left
        · (simp only [List.getElem?_toArray, List.getElem?_cons_zero, List.getElem?_cons_succ]; rfl)
        go_simp
        go_at_call 31
        refine (l15Step_any (fun b => w1.heap.size ≤ b ∧ b ≠ ud.heap.size) g0 n0 d0 g1 n1 d1 kd f t v ps ws cs0 cs1 G wa1 g4 HGN.out HGP.out HGW.out HSV.out).mono ?_
        intro e wa2 hst3
        rw [HSS.out] at hst3
        obtain ⟨rfl, hO3, hsv3⟩ := hst3
        have HBwa2 : Below w1.heap.size w1 wa2 := HBwa1.trans (Off.belowOf hO3 (fun b h => h.1) HBwa1.size)
        have zwa2 := hO3.size
        have HSV3 := Hid.mk hsv3
        have pb := (hO3.block ud.heap.size (by omega) (fun h => h.2 rfl)).trans pb
        clear hO3 hsv3 HSV
        (try go_wp2_with fail)
        refine hK.out _ _ ?_ (fun hHeld' => ?_)
        · (try dsimp only)
          exact HBwa2
        clear hK K hHeld
        have hHeld := hHeld'
        clear hHeld'
        (try simp only [Act.put, List.setIfInBounds_toArray, List.set_cons_zero, List.set_cons_succ])
        refine tk 4 ?_
        refine tk 5 ?_
        refine tk 6 ?_
        have yy0 := blk_cell pb 0 (v := .slice none 0 0) rfl
        have yy1 := blk_cell pb 1 (v := .slice none 0 0) rfl
        have fy0 := blk_frozen pb 0
        have fy1 := blk_frozen pb 1
        have HBE : Below w1.heap.size w1 ((wa2.setCell ⟨ud.heap.size, 0, none⟩ (.slice (some ⟨g0, 0, none⟩) n0 d0)).setCell ⟨ud.heap.size, 1, none⟩ (.slice (some ⟨g1, 0, none⟩) n1 d1)) := (HBwa2.setCell (by show w1.heap.size ≤ ud.heap.size; omega) _).setCell (by show w1.heap.size ≤ ud.heap.size; omega) _
        refine wpAnyH_ready (rs := [8]) (by kernel_rfl) (by simp) ?_
        refine AllReadyH.cons (o := ?_) ?_ (fun K hK => ?_) AllReadyH.nil
        rotate_left
        · (simp only [List.getElem?_toArray, List.getElem?_cons_zero, List.getElem?_cons_succ]; rfl)
        go_simp
        skip
        (try go_wp2_with fail)
        refine hK.out _ _ ?_ (fun hHeld' => ?_)
        · (try dsimp only)
          exact HBE
        clear hK K hHeld
        have hHeld := hHeld'
        clear hHeld'
        (try simp only [Act.put, List.setIfInBounds_toArray, List.set_cons_zero, List.set_cons_succ])
        refine tk 9 ?_
        refine wpAnyH_done (by kernel_rfl) ?_ _
        (try go_wp2_with fail)
        go_meet
        case rel =>
          refine ⟨ud.heap.size, g0, d0, g1, d1, rfl, rfl, blk_set (blk_set pb 0 _) 1 _, fun h => ?_, HBE, by omega, by rw [size_set, size_set]; omega⟩
          obtain ⟨qa, qb, qc, q⟩ := HSV3.out h
          exact ⟨qa, qb, qc, SV.frame q (fun b hb hl => (Below.heap_setCell _ _ _ _ (by show b ≠ ud.heap.size; exact hb.2)).trans (Below.heap_setCell _ _ _ _ (by show b ≠ ud.heap.size; exact hb.2))) (by rw [size_set, size_set]; exact Nat.le_refl _)⟩
    case rest =>
    obtain ⟨P, g0, d0, g1, d1, rfl, rfl, bp, hsv3, BXX, hPN, zXa⟩ := hcut
    obtain ⟨Xa, rfl⟩ : ∃ x, x = wc := ⟨_, rfl⟩
    have BX : Below w.heap.size w Xa := B1.trans (BXX.mono B1.size)
    have br := blk_below br BXX
    have HSV3 := Hid.mk hsv3
    have zBX := BXX.size
    clear q0 q1 x0 x1 x2 x3 bb bx KC hsv3 BXX
    cases OK with
    | false =>
      clear bp
      have hB0 : spB (ps, ws) kd f t v = false := by unfold spB; rw [HST.out, HPB.out]; rfl
      obtain rfl : false = XB := by rw [← HXB.out, hB0]
      obtain rfl : (([], []) : TSnap) = XX := by rw [← HXX.out]; unfold spX; rw [hB0]; rfl
      clear hB0
      have y0 := blk_cell br 0 (v := .slice none 0 0) rfl
      have y1 := blk_cell br 1 (v := .slice none 0 0) rfl
      have fz0 := blk_frozen br 0
      have fz1 := blk_frozen br 1
      go_wp2
      refine bodyPost_ret (v := .tuple #[.agg #[.slice none 0 0, .slice none 0 0], .bool false]) (by simp [results, Try.results7, go_sem, y0, y1]) rfl ⟨⟨none, 0, 0, none, 0, 0, rfl, RSnap.nil _ _⟩, ?_⟩
      exact (BX.setCell (by show w.heap.size ≤ w.heap.size + 2; omega) _).setCell (by show w.heap.size ≤ w.heap.size + 2; omega) _
    | true =>
      obtain ⟨cs0, cs1, G, hsv⟩ : ∃ cells0 cells1 G, SV Xa (fun b => w1.heap.size ≤ b ∧ b ≠ P) g0 n0 d0 g1 n1 d1 PS WS cells0 cells1 G := by first | exact HSV3.out rfl | exact HSV3.out trivial
      have hl0 : PS.length = n0 := hsv.pr.len
      have hl1 : WS.length = n1 := hsv.wi.len
      have hsmall : ∀ (i : Nat) (x : TWire), WS[i]? = some x → costWire x ≤ 1048576 := step_small g4 HGW.out HSS.out
      have KG2 := Hid.mk (specGoodSnap (some ⟨g0, 0, none⟩) n0 d0 (some ⟨g1, 0, none⟩) n1 d1 PS WS Xa hl0 hl1 hb0 hb1 hsmall hsv.pr.atSl hsv.wi.atSl)
      obtain ⟨PB2, hPB2⟩ : ∃ b, gsB (PS, WS) = b := ⟨_, rfl⟩
      rw [hPB2] at KG2
      have hsp : spB (ps, ws) kd f t v = PB2 := by unfold spB; rw [HST.out, HPB.out]; simp only [Bool.true_and]; exact hPB2
      have HSP := Hid.mk hsp
      have HSV := Hid.mk hsv
      clear hsv HSV3 hPB2 hsp hl0 hl1 hsmall
      have p0 := blk_cell bp 0 (v := .slice (some ⟨g0, 0, none⟩) n0 d0) rfl
      have p1 := blk_cell bp 1 (v := .slice (some ⟨g1, 0, none⟩) n1 d1) rfl
      go_wp2_with fail
      refine KG2.out.mono ?_
      rintro e w4 ⟨rfl, hb4⟩
      have br := blk_below br hb4
      have bp := blk_below bp hb4
      have z4 := hb4.size
      have B4 := BX.trans (hb4.mono BX.size)
      have HSV4 := Hid.mk (HSV.out.below hb4)
      clear KG2 hb4 HSV p0 p1
      cases PB2 with
      | false =>
        clear bp
        have hB0 : spB (ps, ws) kd f t v = false := by exact HSP.out
        obtain rfl : false = XB := by rw [← HXB.out, hB0]
        obtain rfl : (([], []) : TSnap) = XX := by rw [← HXX.out]; unfold spX; rw [hB0]; rfl
        clear hB0
        have y0 := blk_cell br 0 (v := .slice none 0 0) rfl
        have y1 := blk_cell br 1 (v := .slice none 0 0) rfl
        have fz0 := blk_frozen br 0
        have fz1 := blk_frozen br 1
        go_wp2
        refine bodyPost_ret (v := .tuple #[.agg #[.slice none 0 0, .slice none 0 0], .bool false]) (by simp [results, Try.results7, go_sem, y0, y1]) rfl ⟨⟨none, 0, 0, none, 0, 0, rfl, RSnap.nil _ _⟩, ?_⟩
        exact (B4.setCell (by show w.heap.size ≤ w.heap.size + 2; omega) _).setCell (by show w.heap.size ≤ w.heap.size + 2; omega) _
      | true =>
        obtain rfl : true = XB := by rw [← HXB.out, HSP.out]
        obtain rfl : ((PS, WS) : TSnap) = XX := by rw [← HXX.out]; unfold spX; rw [HSP.out, HST.out]; rfl
        have p0 := blk_cell bp 0 (v := .slice (some ⟨g0, 0, none⟩) n0 d0) rfl
        have p1 := blk_cell bp 1 (v := .slice (some ⟨g1, 0, none⟩) n1 d1) rfl
        have y0 := blk_cell br 0 (v := .slice none 0 0) rfl
        have y1 := blk_cell br 1 (v := .slice none 0 0) rfl
        have fz0 := blk_frozen br 0
        have fz1 := blk_frozen br 1
        obtain ⟨Y, hY⟩ : ∃ u, u = (w4.setCell ⟨w.heap.size + 2, 0, none⟩ (.slice (some ⟨g0, 0, none⟩) n0 d0)).setCell ⟨w.heap.size + 2, 1, none⟩ (.slice (some ⟨g1, 0, none⟩) n1 d1) := ⟨_, rfl⟩
        have S : Off (fun b => b = w.heap.size + 2) w4 Y := by rw [hY]; exact (Off.set (F := fun b => b = w.heap.size + 2) (a := ⟨w.heap.size + 2, 0, none⟩) rfl _).trans (Off.set (F := fun b => b = w.heap.size + 2) (a := ⟨w.heap.size + 2, 1, none⟩) rfl _)
        have RR : Hid (SnapRet (.returned (.tuple #[.agg #[.slice (some ⟨g0, 0, none⟩) n0 d0, .slice (some ⟨g1, 0, none⟩) n1 d1], .bool true])) Y w.heap.size true (PS, WS) ∧ Below w.heap.size w Y) := Hid.mk (by
          have zS := S.size
          refine ⟨?_, B4.trans (S.belowOf (fun b h => by have h2 : b = w.heap.size + 2 := h; omega) (by omega))⟩
          exact ⟨some ⟨g0, 0, none⟩, n0, d0, some ⟨g1, 0, none⟩, n1, d1, rfl, RSnap.mono (RSnap.ownOff (SV.own HSV4.out) S (fun b h e => by have h2 : b = w.heap.size + 2 := e; have h3 : w1.heap.size ≤ b := h.1.1; omega)) (fun b h => ⟨by have h3 : w1.heap.size ≤ b := h.1.1; omega, by have := h.2; omega⟩)⟩)
        have HY := Hid.mk hY
        clear S hY
        go_wp2
        refine bodyPost_ret (v := .tuple #[.agg #[.slice (some ⟨g0, 0, none⟩) n0 d0, .slice (some ⟨g1, 0, none⟩) n1 d1], .bool true]) (by simp [results, Try.results7, go_sem, y0, y1]) rfl ?_
        have h := RR.out
        rw [HY.out] at h
        exact h

end Go.Proofs.Ytnfdncofobkjhaa

/- Plain: what a step tells is within the laws' bound. -/
namespace Go.Proofs.Ytnfdncofobkjhaa
open Go.RowKit

set_option maxRecDepth 100000 in
theorem wires_cost {ws : List TWire} (h : WsOk ws) : ∀ k, csumWire ws k ≤ k * 400
  | 0 => by rw [csumWire_zero]; exact Nat.zero_le _
  | k + 1 => by
    by_cases hk : k < ws.length
    · have hx : ws[k]? = some ws[k] := List.getElem?_eq_getElem hk
      have h1 := h _ (List.mem_of_getElem? hx)
      have h2 : costWire ws[k] ≤ 400 := by unfold costWire; omega
      rw [csumWire_succ hx]
      have := wires_cost h k
      omega
    · have e : csumWire ws (k + 1) = csumWire ws k := by
        unfold csumWire szL
        rw [List.take_of_length_le (by omega), List.take_of_length_le (by omega)]
      rw [e]
      have := wires_cost h k
      omega
theorem gs_small {x : TSnap} (h : gsB x = true) : costSnap x ≤ 1048576 := by
  obtain ⟨ps, ws⟩ := x
  obtain ⟨_, g4, _, g16, _, gw, _⟩ := gs_parts (ps := ps) (ws := ws) rfl rfl h
  have := wires_cost gw ws.length
  unfold costSnap
  simp only
  omega
theorem spX_small (x : TSnap) (kd f t v : Int) : costSnap ((spX x kd f t v).1, (spX x kd f t v).2) ≤ 1048576 := by
  show costSnap (spX x kd f t v) ≤ 1048576
  unfold spX
  by_cases h : spB x kd f t v = true
  · rw [if_pos h]
    unfold spB at h
    simp only [Bool.and_eq_true] at h
    exact gs_small h.2
  · rw [if_neg h]
    decide

end Go.Proofs.Ytnfdncofobkjhaa

/- SnapStep as a thing in memory. -/
namespace Go.Proofs.Ytnfdncofobkjhaa
open Go.RowKit

/-- impl.SnapStep, by its fields. -/
abbrev TSnapStep := Int × Int × Int × Int
abbrev RSnapStep : Rep TSnapStep := Rep.pair Rep.int (Rep.pair Rep.int (Rep.pair Rep.int (Rep.int)))
abbrev RSnapSteps : Rep (List TSnapStep) := Rep.slice 36 RSnapStep
theorem RSnapStep_k : RSnapStep.k = 4 := rfl
theorem RSnapStep.at_open {w : World} {cs : List Value} {x : TSnapStep} (h : RSnapStep.At w cs x) : cs = [.int .i64 x.1, .int .i64 x.2.1, .int .i64 x.2.2.1, .int .i64 x.2.2.2] ∧ True := by
  obtain ⟨e0, d0, rfl, h0, ⟨e1, d1, rfl, h1, ⟨e2, d2, rfl, h2, h3⟩⟩⟩ := h
  obtain rfl : e0 = [.int .i64 x.1] := h0
  obtain rfl : e1 = [.int .i64 x.2.1] := h1
  obtain rfl : e2 = [.int .i64 x.2.2.1] := h2
  obtain rfl : d2 = [.int .i64 x.2.2.2] := h3
  exact ⟨rfl, trivial⟩
theorem RSnapStep.own_mk {w : World} {F : Nat → Prop} {zi0 : Int} {zi1 : Int} {zi2 : Int} {zi3 : Int} : RSnapStep.Own w F [.int .i64 zi0, .int .i64 zi1, .int .i64 zi2, .int .i64 zi3] (zi0, zi1, zi2, zi3) :=
  ⟨[_], _, (fun _ => False), (fun _ => False), rfl, rfl, ⟨[_], _, (fun _ => False), (fun _ => False), rfl, rfl, ⟨[_], _, (fun _ => False), (fun _ => False), rfl, rfl, rfl, (fun _ h => False.elim h), (fun _ h => h), (fun _ h => False.elim h)⟩, (fun _ h => False.elim h), (fun _ h => h), (fun _ h => False.elim h)⟩, (fun _ h => False.elim h), (fun _ h => False.elim h), (fun _ h => False.elim h)⟩
theorem RSnapStep.own_open {w : World} {F : Nat → Prop} {cs : List Value} {x : TSnapStep} (h : RSnapStep.Own w F cs x) : cs = [.int .i64 x.1, .int .i64 x.2.1, .int .i64 x.2.2.1, .int .i64 x.2.2.2] := (RSnapStep.at_open (RSnapStep.toAt h)).1
def mknSnapStep (_x : TSnapStep) : Nat := 1 + 1 + 1 + 1
def mkSnapStep (m : Int) (_x : TSnapStep) : TSnapStep := (m, m + 1, m + 1 + 1, m + 1 + 1 + 1)
abbrev msumSnapStep (xs : List TSnapStep) (k : Nat) : Nat := szL mknSnapStep xs k
def mkSnapSteps (m : Int) (xs : List TSnapStep) : List TSnapStep := mkL mkSnapStep mknSnapStep m xs
theorem msumSnapStep_zero (xs : List TSnapStep) : msumSnapStep xs 0 = 0 := by simp [msumSnapStep, szL]
theorem msumSnapStep_succ {xs : List TSnapStep} {k : Nat} {x : TSnapStep} (h : xs[k]? = some x) : msumSnapStep xs (k + 1) = msumSnapStep xs k + mknSnapStep x := szL_succ mknSnapStep h
theorem msumSnapStep_mono (xs : List TSnapStep) (j k : Nat) (h : j ≤ k) : msumSnapStep xs j ≤ msumSnapStep xs k := szL_mono mknSnapStep xs j k h
theorem mkSnapSteps_len (m : Int) (xs : List TSnapStep) : (mkSnapSteps m xs).length = xs.length := mkL_length _ _ _ _
theorem RSnapStep.row {w : World} {a : Option Addr} {xs : List TSnapStep} (h : AtSl RSnapStep w a xs) (hp : 0 < xs.length) : ∃ b off, a = some ⟨b, off, none⟩ ∧ b < w.heap.size ∧ ∀ (i : Nat) (x : TSnapStep), xs[i]? = some x → w.cell? ⟨b, off + i * 4, none⟩ = some (.int .i64 x.1) ∧ w.cell? ⟨b, off + i * 4 + 1, none⟩ = some (.int .i64 x.2.1) ∧ w.cell? ⟨b, off + i * 4 + 2, none⟩ = some (.int .i64 x.2.2.1) ∧ w.cell? ⟨b, off + i * 4 + 3, none⟩ = some (.int .i64 x.2.2.2) ∧ True := by
  obtain ⟨b, off, rfl, hc⟩ := AtSl.each h hp
  have row : ∀ (i : Nat) (x : TSnapStep), xs[i]? = some x → w.cell? ⟨b, off + i * 4, none⟩ = some (.int .i64 x.1) ∧ w.cell? ⟨b, off + i * 4 + 1, none⟩ = some (.int .i64 x.2.1) ∧ w.cell? ⟨b, off + i * 4 + 2, none⟩ = some (.int .i64 x.2.2.1) ∧ w.cell? ⟨b, off + i * 4 + 3, none⟩ = some (.int .i64 x.2.2.2) ∧ True := by
    intro i x hx
    obtain ⟨cs, h1, h2⟩ := hc i x hx
    obtain ⟨rfl, u⟩ := RSnapStep.at_open h2
    exact ⟨h1 0 _ rfl, h1 1 _ rfl, h1 2 _ rfl, h1 3 _ rfl, u⟩
  refine ⟨b, off, rfl, ?_, row⟩
  obtain ⟨h1, _⟩ := row 0 xs[0] (List.getElem?_eq_getElem hp)
  exact World.block_lt_of_cell? _ _ h1
theorem RSnapSteps.atSl {w : World} {F : Nat → Prop} {a : Option Addr} {n c : Nat} {xs : List TSnapStep} (h : RSnapSteps.Own w F [.slice a n c] xs) : xs.length = n ∧ AtSl RSnapStep w a xs := by
  obtain ⟨a', n', c', e, h1, _, h3, _⟩ := RSnapSteps.toAt h
  simp only [List.cons.injEq, Value.slice.injEq, and_true] at e
  obtain ⟨rfl, rfl, rfl⟩ := e
  exact ⟨h1, h3⟩
theorem msumSnapStep_eq : ∀ (xs : List TSnapStep) (k : Nat), k ≤ xs.length → msumSnapStep xs k = 4 * k
  | xs, 0, _ => by rw [msumSnapStep_zero]
  | xs, k + 1, h => by
    have hx : xs[k]? = some xs[k] := List.getElem?_eq_getElem (by omega)
    have e : mknSnapStep xs[k] = 4 := by unfold mknSnapStep; omega
    rw [msumSnapStep_succ hx, msumSnapStep_eq xs k (by omega), e]
    omega

end Go.Proofs.Ytnfdncofobkjhaa
