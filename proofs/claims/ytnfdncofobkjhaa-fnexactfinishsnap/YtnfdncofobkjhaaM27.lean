/- Contract of the model's FinishSnap. -/
import Derived.Test.YtnfdncofobkjhaaM25
import Derived.Test.YtnfdncofobkjhaaM24
import Derived.Test.YtnfdncofobkjhaaM26
namespace Go.Proofs.Ytnfdncofobkjhaa
open Go.RowKit

set_option maxRecDepth 100000 in
set_option maxHeartbeats 20000000 in
theorem specFinishSnap (a0 : Option Addr) (n0 c0 : Nat) (a1 : Option Addr) (n1 c1 : Nat) (pa : List TProc) (wa : List TWire) (w : World) (h0 : pa.length = n0) (h1 : wa.length = n1) (hb0 : n0 ≤ 1048576) (hb1 : n1 ≤ 1048576) (hsm : ∀ (i : Nat) (x : TWire), wa[i]? = some x → costWire x ≤ 1048576) (ha0 : AtSl RProc w a0 pa) (ha1 : AtSl RWire w a1 wa) :
    Calls Try.prog 26 #[.agg #[.slice a0 n0 c0, .slice a1 n1 c1]] w fun e w' => FzRet e w' w.heap.size (fzN (pa, wa)) (fzOk (pa, wa)) (fzZ (pa, wa)) ∧ Below w.heap.size w w' := by
  obtain ⟨W1, hW1⟩ : ∃ W, W = w.alloc (.cells #[.slice a0 n0 c0, .slice a1 n1 c1] 32) := ⟨_, rfl⟩
  obtain ⟨W, hW⟩ : ∃ W, W = W1.alloc (.cells #[.slice none 0 0, .slice none 0 0] 32) := ⟨_, rfl⟩
  have z1 : W1.heap.size = w.heap.size + 1 := by rw [hW1]; simp
  have zW : W.heap.size = w.heap.size + 2 := by rw [hW]; simp [z1]
  have B01 : Below w.heap.size w W1 := by rw [hW1]; exact (Below.refl _ _).alloc (Nat.le_refl _) _
  have B12 : Below W1.heap.size W1 W := by rw [hW]; exact (Below.refl _ _).alloc (Nat.le_refl _) _
  have b0 : W.heap[w.heap.size]? = some (.cells #[.slice a0 n0 c0, .slice a1 n1 c1] 32 (0, 0)) := blk_below (by rw [hW1]; exact heap_alloc_new w _) B12
  have b1 : W.heap[w.heap.size + 1]? = some (.cells #[.slice none 0 0, .slice none 0 0] 32 (0, 0)) := by rw [hW, ← z1]; exact heap_alloc_new W1 _
  have B0 : Below w.heap.size w W := B01.trans (B12.mono (by omega))
  have hWW : W = (w.alloc (.cells #[.slice a0 n0 c0, .slice a1 n1 c1] 32)).alloc (.cells #[.slice none 0 0, .slice none 0 0] 32) := by rw [hW, hW1]
  clear B01 B12 hW hW1 z1 W1
  obtain ⟨GB, hGB⟩ : ∃ x, gsB (pa, wa) = x := ⟨_, rfl⟩
  obtain ⟨AD, hAD⟩ : ∃ x, anyD (pa, wa) = x := ⟨_, rfl⟩
  obtain ⟨FN, hFN⟩ : ∃ x, fzN (pa, wa) = x := ⟨_, rfl⟩
  obtain ⟨FO, hFO⟩ : ∃ x, fzOk (pa, wa) = x := ⟨_, rfl⟩
  obtain ⟨FZ, hFZ⟩ : ∃ x, fzZ (pa, wa) = x := ⟨_, rfl⟩
  have KG := Hid.mk (specGoodSnap a0 n0 c0 a1 n1 c1 pa wa W h0 h1 hb0 hb1 hsm (AtSl.below ha0 B0) (AtSl.below ha1 B0))
  rw [hGB] at KG
  rw [hFN, hFO, hFZ]
  have HGB := Hid.mk hGB
  have HAD := Hid.mk hAD
  have HFN := Hid.mk hFN
  have HFO := Hid.mk hFO
  have HFZ := Hid.mk hFZ
  have H0 := Hid.mk h0
  have H1 := Hid.mk h1
  have HA0 := Hid.mk (AtSl.below ha0 B0)
  have HA1 := Hid.mk (AtSl.below ha1 B0)
  clear ha0 ha1 h0 h1 hsm hGB hAD hFN hFO hFZ
  have q0 := blk_cell b0 0 (v := .slice a0 n0 c0) rfl
  have q1 := blk_cell b0 1 (v := .slice a1 n1 c1) rfl
  go_enter Try.func26, Try.ntmps26
  go_upto_region 1 with fail
  rw [← hWW]
  clear hWW
  go_wp2_with fail
  refine KG.out.mono ?_
  rintro e w1 ⟨rfl, hb1'⟩
  have b0 := blk_below b0 hb1'
  have b1 := blk_below b1 hb1'
  have z1 := hb1'.size
  have B1 := B0.trans (hb1'.mono B0.size)
  have HA0 := Hid.mk (AtSl.below HA0.out hb1')
  have HA1 := Hid.mk (AtSl.below HA1.out hb1')
  clear hb1' KG q0 q1
  cases GB with
  | false =>
    have hNO : fzOk (pa, wa) = false := by unfold fzOk; rw [HGB.out]; rfl
    obtain rfl : false = FO := by rw [← HFO.out, hNO]
    obtain rfl : (0 : Int) = FN := by rw [← HFN.out]; unfold fzN; rw [hNO]; rfl
    obtain rfl : (([], []) : TSnap) = FZ := by rw [← HFZ.out]; unfold fzZ; rw [hNO]; rfl
    clear hNO
    have y0 := blk_cell b1 0 (v := .slice none 0 0) rfl
    have y1 := blk_cell b1 1 (v := .slice none 0 0) rfl
    have fz0 := blk_frozen b1 0
    have fz1 := blk_frozen b1 1
    go_wp2
    refine bodyPost_ret (v := .tuple #[.agg #[.slice none 0 0, .slice none 0 0], .int .i64 0, .bool false]) (by simp [results, Try.results26, go_sem, y0, y1]) rfl ⟨⟨none, 0, 0, none, 0, 0, rfl, RSnap.nil _ _⟩, ?_⟩
    exact (B1.setCell (by show w.heap.size ≤ w.heap.size + 1; omega) _).setCell (by show w.heap.size ≤ w.heap.size + 1; omega) _
  | true =>
    obtain ⟨g2, g4, gn, g16, gp, gw, _⟩ := gs_parts H0.out H1.out HGB.out
    have KC := Hid.mk (l15Own_any a0 n0 c0 a1 n1 c1 pa wa w1 H0.out H1.out (by omega) g4 (by rw [gn]; exact Nat.mul_pos (by omega) (by omega)) g16 (wire_small gw) HA0.out HA1.out)
    have HGN := Hid.mk gn
    clear gn gp gw
    have q0 := blk_cell b0 0 (v := .slice a0 n0 c0) rfl
    have q1 := blk_cell b0 1 (v := .slice a1 n1 c1) rfl
    have fo0 := blk_frozen b0 0
    have fo1 := blk_frozen b0 1
    go_wp2_with fail
    refine KC.out.mono ?_
    rintro e w2 ⟨g0, d0, g1, d1, cs0, cs1, G, rfl, hsv, hb2⟩
    have b0 := blk_below b0 hb2
    have b1 := blk_below b1 hb2
    have z2 := hb2.size
    have B2 := B1.trans (hb2.mono B1.size)
    clear KC q0 q1 fo0 fo1
    have q0 := blk_cell b0 0 (v := .slice a0 n0 c0) rfl
    have q1 := blk_cell b0 1 (v := .slice a1 n1 c1) rfl
    have fo0 := blk_frozen b0 0
    have fo1 := blk_frozen b0 1
    obtain ⟨X2, hX⟩ : ∃ u, u = (w2.setCell ⟨w.heap.size, 0, none⟩ (.slice (some ⟨g0, 0, none⟩) n0 d0)).setCell ⟨w.heap.size, 1, none⟩ (.slice (some ⟨g1, 0, none⟩) n1 d1) := ⟨_, rfl⟩
    have b0' : X2.heap[w.heap.size]? = some (.cells #[.slice (some ⟨g0, 0, none⟩) n0 d0, .slice (some ⟨g1, 0, none⟩) n1 d1] 32 (0, 0)) := by rw [hX]; exact blk_set (blk_set b0 0 _) 1 _
    have b1' : X2.heap[w.heap.size + 1]? = some (.cells #[.slice none 0 0, .slice none 0 0] 32 (0, 0)) := by rw [hX]; exact blk_other (blk_other b1 (by show w.heap.size + 1 ≠ w.heap.size; omega) _) (by show w.heap.size + 1 ≠ w.heap.size; omega) _
    have hS : Off (fun b => b = w.heap.size) w2 X2 := by rw [hX]; exact (Off.set (F := fun b => b = w.heap.size) (a := ⟨w.heap.size, 0, none⟩) rfl _).trans (Off.set (F := fun b => b = w.heap.size) (a := ⟨w.heap.size, 1, none⟩) rfl _)
    have zX2 := hS.size
    have BX2 : Below w.heap.size w X2 := B2.trans (hS.belowOf (fun b h => by have h2 : b = w.heap.size := h; omega) (by omega))
    have hoz : RSnap.Own X2 (fun b => w1.heap.size ≤ b ∧ b < X2.heap.size) [.slice (some ⟨g0, 0, none⟩) n0 d0, .slice (some ⟨g1, 0, none⟩) n1 d1] (pa, wa) := RSnap.mono (RSnap.ownOff (SV.own hsv) hS (fun b h e => by have h2 : b = w.heap.size := e; have h3 : w1.heap.size ≤ b := h.1; omega)) (fun b h => ⟨h.1, by have := h.2; omega⟩)
    clear b0 b1 hS hsv hb2 B2
    have b0 := b0'
    have b1 := b1'
    clear b0' b1'
    go_upto_region 4 with fail
    rw [← hX]
    clear hX q0 q1 fo0 fo1
    have hq := RSnap.at_iff (RSnap.toAt hoz)
    have HA0 := Hid.mk hq.1.2.2.1
    clear hq
    have p0 := blk_cell b0 0 (v := .slice (some ⟨g0, 0, none⟩) n0 d0) rfl
    have p1 := blk_cell b0 1 (v := .slice (some ⟨g1, 0, none⟩) n1 d1) rfl
    go_wp2_with fail
    go_loopw [5, 24] (fun q i wr => ∃ (k : Nat) (b : Bool), k ≤ n0 ∧ i = .int .i64 k ∧ q = .bool b ∧ AD = (b || (pa.drop k).any (fun p => p.2.2)) ∧ Below X2.heap.size X2 wr) (fun _ i _ => n0 - (intOf i).toNat)
    case atStart => exact ⟨0, false, Nat.zero_le _, rfl, rfl, HAD.out.symm, Below.refl _ _⟩
    case round =>
      obtain ⟨k, b, hk, rfl, rfl, hd, hbw⟩ := hrel
      obtain ⟨wY, rfl⟩ : ∃ x, x = wr := ⟨_, rfl⟩
      by_cases hlt : k < n0
      · obtain ⟨ob, off, hob, _, hc⟩ := RProc.row (AtSl.below HA0.out hbw) (by have := H0.out; omega)
        cases hob
        obtain ⟨⟨zz0, zz1, bo⟩, hx⟩ : ∃ x, pa[k]? = some x := ⟨_, List.getElem?_eq_getElem (by have := H0.out; omega)⟩
        obtain ⟨y0, y1, y2, _⟩ := hc k _ hx
        (try simp only [Nat.zero_add] at y0 y1 y2)
        have hki : (k : Int) < (n0 : Int) := by omega
        have e : pa.drop k = (zz0, zz1, bo) :: pa.drop (k + 1) := by rw [List.drop_eq_getElem_cons (List.getElem?_eq_some_iff.1 hx).1, (List.getElem?_eq_some_iff.1 hx).2]
        rw [e, List.any_cons] at hd
        have HD := Hid.mk hd
        clear hc hx e hd hoz b0 b1
        cases b with
        | true =>
          go_wp2
          go_roundw
          case rel => exact ⟨k + 1, true, by omega, by go_num, rfl, by rw [HD.out]; rfl, hbw.alloc hbw.size _⟩
          case measure => simp [intOf]; omega
        | false =>
          go_wp2
          go_roundw
          case rel => exact ⟨k + 1, bo, by omega, by go_num, rfl, by rw [HD.out]; rfl, hbw.alloc hbw.size _⟩
          case measure => simp [intOf]; omega
      · obtain rfl : n0 = k := by omega
        rw [List.drop_eq_nil_of_le (by rw [H0.out]; exact Nat.le_refl _)] at hd
        have hd2 : AD = b := by rw [hd]; simp
        subst hd2
        have hki : ¬ (n0 : Int) < (n0 : Int) := by omega
        have b0 := blk_below b0 hbw
        have b1 := blk_below b1 hbw
        have hoz := RSnap.ownBelow hoz hbw
        have zwY := hbw.size
        have BY := BX2.trans (hbw.mono BX2.size)
        clear hd hbw p0 p1
        cases AD with
        | false =>
          have hNO : fzOk (pa, wa) = false := by unfold fzOk; rw [HGB.out, HAD.out]; rfl
          have hpc : picB (pa, wa) = false := by
            cases h : picB (pa, wa) with
            | false => rfl
            | true => (have h2 := pic_any h; rw [HAD.out] at h2; cases h2)
          have hq := RSnap.at_iff (RSnap.toAt hoz)
          have hgw := gs_wires HGB.out
          have KPi := Hid.mk (specPictureOf (some ⟨g0, 0, none⟩) n0 d0 (some ⟨g1, 0, none⟩) n1 d1 pa wa wY hq.1.1 hq.2.1 hb0 hb1 hgw.2.2 hq.1.2.2.1 hq.2.2.2.1)
          rw [hpc] at KPi
          have HNO := Hid.mk hNO
          clear hq hgw hpc hNO hoz
          have p0 := blk_cell b0 0 (v := .slice (some ⟨g0, 0, none⟩) n0 d0) rfl
          have p1 := blk_cell b0 1 (v := .slice (some ⟨g1, 0, none⟩) n1 d1) rfl
          go_wp2_with fail
          refine wp_loop_rounds 1 ?_
          rw [rounds_succ]
          go_wp2_with fail
          refine KPi.out.mono ?_
          rintro e w9 ⟨rfl, hb9⟩
          have b1 := blk_below b1 hb9
          have z9 := hb9.size
          have B9 := BY.trans (hb9.mono BY.size)
          have hNO := HNO.out
          clear KPi hb9 p0 p1 b0
          obtain rfl : false = FO := by rw [← HFO.out, hNO]
          obtain rfl : (0 : Int) = FN := by rw [← HFN.out]; unfold fzN; rw [hNO]; rfl
          obtain rfl : (([], []) : TSnap) = FZ := by rw [← HFZ.out]; unfold fzZ; rw [hNO]; rfl
          clear hNO
          have y0 := blk_cell b1 0 (v := .slice none 0 0) rfl
          have y1 := blk_cell b1 1 (v := .slice none 0 0) rfl
          have fz0 := blk_frozen b1 0
          have fz1 := blk_frozen b1 1
          go_wp2
          refine bodyPost_ret (v := .tuple #[.agg #[.slice none 0 0, .slice none 0 0], .int .i64 0, .bool false]) (by simp [results, Try.results26, go_sem, y0, y1]) rfl ⟨⟨none, 0, 0, none, 0, 0, rfl, RSnap.nil _ _⟩, ?_⟩
          exact (B9.setCell (by show w.heap.size ≤ w.heap.size + 1; omega) _).setCell (by show w.heap.size ≤ w.heap.size + 1; omega) _
        | true =>
          obtain ⟨RES, hres⟩ : ∃ x, fzS 2000 (pa, wa) 0 = x := ⟨_, rfl⟩
          have HRES := Hid.mk hres
          have HB0 := Hid.mk b0
          have HB1 := Hid.mk b1
          have HO := Hid.mk hoz
          have HBY := Hid.mk BY
          have p0 := blk_cell b0 0 (v := .slice (some ⟨g0, 0, none⟩) n0 d0) rfl
          have p1 := blk_cell b0 1 (v := .slice (some ⟨g1, 0, none⟩) n1 d1) rfl
          clear hres b0 b1 hoz BY
          go_wp2_with fail
          go_loopw [8] (fun i wr => ∃ (k : Nat) (r0 : Option Addr) (mr0 dr0 : Nat) (r1 : Option Addr) (mr1 dr1 : Nat) (ps : List TProc) (ws : List TWire) (G : Nat → Prop), i = .int .i64 k ∧ k ≤ 2000 ∧ wr.heap[w.heap.size]? = some (.cells #[.slice r0 mr0 dr0, .slice r1 mr1 dr1] 32 (0, 0)) ∧ wr.heap[w.heap.size + 1]? = some (.cells #[.slice none 0 0, .slice none 0 0] 32 (0, 0)) ∧ RSnap.Own wr G [.slice r0 mr0 dr0, .slice r1 mr1 dr1] (ps, ws) ∧ gsB (ps, ws) = true ∧ ps.length = n0 ∧ fzS (2000 - k) (ps, ws) k = RES ∧ (∀ b, G b → w.heap.size + 2 ≤ b ∧ b < wr.heap.size) ∧ Below w.heap.size w wr ∧ w.heap.size + 1 < wr.heap.size) (fun i _ => 2000 - (intOf i).toNat)
          case atStart => exact ⟨0, some ⟨g0, 0, none⟩, n0, d0, some ⟨g1, 0, none⟩, n1, d1, pa, wa, _, rfl, by omega, HB0.out, HB1.out, HO.out, HGB.out, H0.out, HRES.out, fun b h => ⟨by have := h.1; omega, by have := h.2; omega⟩, HBY.out, by omega⟩
          case round =>
            clear HB0 HB1 HO HBY p0 p1
            obtain ⟨k, r0, mr0, dr0, r1, mr1, dr1, ps, ws, G, rfl, hk, b0, b1, hoz, hjz, hln, hrs, hG, BwY, zwY⟩ := hrel
            obtain ⟨wY, rfl⟩ : ∃ x, x = wr := ⟨_, rfl⟩
            have HRS := Hid.mk hrs
            have HGG := Hid.mk hG
            clear hrs hG
            by_cases hlt : k < 2000
            · have hlti : (k : Int) < 2000 := by omega
              have hw1 : IntKind.i64.wrap ((k : Int) + 1) = ((k + 1 : Nat) : Int) := by rw [IntWalk.i64_in _ (by omega)]; omega
              have HM : Hid (2000 - k = (1999 - k) + 1) := Hid.mk (by omega)
              go_wp2_with fail
              go_loopw [10] (fun j wj => ∃ (m : Nat), j = .int .i64 m ∧ m ≤ mr1 ∧ (∀ (i : Nat) (v : TWire), i < m → ws[i]? = some v → hasW v = false) ∧ Below wY.heap.size wY wj) (fun j _ => mr1 - (intOf j).toNat)
              case atStart => exact ⟨0, rfl, Nat.zero_le _, fun i v h => by omega, Below.refl _ _⟩
              case round =>
                obtain ⟨m, rfl, hm, hf, hbj⟩ := hrel
                obtain ⟨wj, hwj⟩ : ∃ x, x = wr := ⟨_, rfl⟩
                rw [← hwj] at hbj ⊢
                clear hwj
                obtain ⟨wi, rfl⟩ : ∃ x, x = wj := ⟨_, rfl⟩
                have b0 := blk_below b0 hbj
                have b1 := blk_below b1 hbj
                have hoz := RSnap.ownBelow hoz hbj
                have zwi := hbj.size
                have Bwi := BwY.trans (hbj.mono BwY.size)
                obtain ⟨⟨u0l, u0n, u0a, _⟩, ⟨u1l, u1n, u1a, _⟩⟩ := RSnap.at_iff (RSnap.toAt hoz)
                by_cases hlj : m < mr1
                · obtain ⟨rb, roff, rfl, _, hrow⟩ := RWire.row u1a (by omega)
                  obtain ⟨⟨x0, x1, bo⟩, hx⟩ : ∃ x, ws[m]? = some x := ⟨_, List.getElem?_eq_getElem (by omega)⟩
                  obtain ⟨xa0, xn0, xc0, xa1, xn1, xc1, e0, e1, e2, ⟨v0l, v0n, _, _⟩, _⟩ := hrow m _ hx
                  (try simp only at v0l e0 e1 e2)
                  have hlji : (m : Int) < (mr1 : Int) := by omega
                  by_cases hx0 : xn0 = 0
                  · subst hx0
                    have hf' : ∀ (i : Nat) (v : TWire), i < m + 1 → ws[i]? = some v → hasW v = false := fun i v hi hv => by
                      by_cases e : i = m
                      · subst e
                        rw [hx] at hv
                        cases hv
                        unfold hasW
                        simp only [v0l]
                        rfl
                      · exact hf i v (by omega) hv
                    have hw2 : IntKind.i64.wrap ((m : Int) + 1) = ((m + 1 : Nat) : Int) := by rw [IntWalk.i64_in _ (by omega)]; omega
                    have HF' := Hid.mk hf'
                    have HBJ := Hid.mk hbj
                    clear hf hf' hrow hx v0l v0n u0l u0n u0a u1l u1n u1a hoz hjz hln hbj b1
                    have p0 := blk_cell b0 0 (v := .slice r0 mr0 dr0) rfl
                    have p1 := blk_cell b0 1 (v := .slice (some ⟨rb, roff, none⟩) mr1 dr1) rfl
                    go_wp2
                    go_roundw
                    case rel => exact ⟨m + 1, by go_num, by omega, HF'.out, HBJ.out⟩
                    case measure => simp [intOf]; omega
                  · have hx0i : ¬ (xn0 : Int) = 0 := by omega
                    have haw : ws.any hasW = true := List.any_eq_true.2 ⟨_, List.mem_of_getElem? hx, by unfold hasW; simp only [v0l]; exact decide_eq_true (by omega)⟩
                    have HAW : Hid (((ps, ws) : TSnap).2.any hasW = true) := Hid.mk haw
                    have hJ' : fzI (ps, ws) = m := by
                      obtain ⟨hm, hmx⟩ := List.getElem?_eq_some_iff.1 hx
                      exact (List.findIdx_eq hm).2 ⟨by rw [hmx]; unfold hasW; simp only [v0l]; exact decide_eq_true (by omega), fun j hj => hf j _ hj (List.getElem?_eq_getElem (by omega))⟩
                    obtain ⟨J, rfl⟩ : ∃ J, J = m := ⟨_, rfl⟩
                    have hje : ¬ (J : Int) = (mr1 : Int) := by omega
                    have hjb : ((J : Int) == (mr1 : Int)) = false := by simp; omega
                    clear hf hrow hx v0l v0n u0l u0n u0a u1l u1n u1a haw hbj
                    have p0 := blk_cell b0 0 (v := .slice r0 mr0 dr0) rfl
                    have p1 := blk_cell b0 1 (v := .slice (some ⟨rb, roff, none⟩) mr1 dr1) rfl
                    go_upto_region 16 with fail
                    clear e0 e1 e2 p0 p1
                    obtain ⟨⟨SB, hsb⟩, ⟨SX, hsx⟩⟩ : (∃ y, fzB (ps, ws) = y) ∧ (∃ y, fzX (ps, ws) = y) := ⟨⟨_, rfl⟩, ⟨_, rfl⟩⟩
                    obtain ⟨⟨q0l, q0n, q0a, _⟩, ⟨q1l, q1n, q1a, _⟩⟩ := RSnap.at_iff (RSnap.toAt hoz)
                    obtain ⟨hw0, hw1, hw2⟩ := gs_wires hjz
                    obtain ⟨Qq, hQ⟩ : ∃ y, fzF (ps, ws) = y := ⟨_, rfl⟩
                    obtain ⟨Rr, hR⟩ : ∃ y, fzT (ps, ws) = y := ⟨_, rfl⟩
                    have KS : Hid (∀ u, Below wi.heap.size wi u → _) := Hid.mk (fun u hu => specStepSnap r0 mr0 dr0 (some ⟨rb, roff, none⟩) mr1 dr1 2 (Qq : Int) (Rr : Int) 0 ps ws u q0l q1l (by omega) (by omega) hw2 (AtSl.below q0a hu) (AtSl.below q1a hu))
                    have e1 : spB (ps, ws) 2 (Qq : Int) (Rr : Int) 0 = SB := by rw [← hsb, ← hQ, ← hR]; rfl
                    have e2 : spX (ps, ws) 2 (Qq : Int) (Rr : Int) 0 = SX := by rw [← hsx, ← hQ, ← hR]; rfl
                    rw [e1, e2] at KS
                    have hJ := hJ'
                    have hQ2 : J / n0 = Qq := by rw [← hJ, ← hln, ← hQ]; rfl
                    have hR2 : J % n0 = Rr := by rw [← hJ, ← hln, ← hR]; rfl
                    have hJn : J < ws.length := by rw [← hJ]; exact fzI_lt HAW.out
                    have hnz : ¬ (n0 : Int) = 0 := by omega
                    have hnz2 : ¬ n0 = 0 := by omega
                    have hq : IntKind.i64.wrap ((J : Int).tdiv (n0 : Int)) = (Qq : Int) := by rw [Int.tdiv_eq_ediv_of_nonneg (by omega), ← hQ2]; exact IntWalk.i64_in _ (by have := Nat.div_le_self J n0; constructor <;> omega)
                    have hq2 : IntKind.i64.wrap ((J : Int) / (n0 : Int)) = (Qq : Int) := by rw [← hQ2]; exact IntWalk.i64_in _ (by have := Nat.div_le_self J n0; constructor <;> omega)
                    have hr : IntKind.i64.wrap ((J : Int).tmod (n0 : Int)) = (Rr : Int) := by rw [Int.tmod_eq_emod_of_nonneg (by omega), ← hR2]; exact IntWalk.i64_in _ (by have := Nat.mod_le J n0; constructor <;> omega)
                    have hr2 : (J : Int).tmod (n0 : Int) = (Rr : Int) := by rw [Int.tmod_eq_emod_of_nonneg (by omega), ← hR2]; rfl
                    have HSB := Hid.mk hsb
                    have HSX := Hid.mk hsx
                    have hJ0 : ¬ (J : Int) < 0 := by omega
                    clear hsb hsx q0l q0n q0a q1l q1n q1a hw0 hw1 hw2 hQ hR hQ2 hR2 e1 e2 hJn
                    clear hJ hJ'
                    have HOZ := Hid.mk hoz
                    have HJZ := Hid.mk hjz
                    have HLN := Hid.mk hln
                    clear hoz hjz hln
                    have p0 := blk_cell b0 0 (v := .slice r0 mr0 dr0) rfl
                    have p1 := blk_cell b0 1 (v := .slice (some ⟨rb, roff, none⟩) mr1 dr1) rfl
                    go_upto_region 17 with fail
                    go_cut [11, 12] (fun p' b' wx => ∃ (P : Nat) (y0 : Option Addr) (my0 dy0 : Nat) (y1 : Option Addr) (my1 dy1 : Nat), p' = .pointer (some ⟨P, 0, none⟩) ∧ b' = .bool SB ∧ wx.heap[P]? = some (.cells #[.slice y0 my0 dy0, .slice y1 my1 dy1] 32 (0, 0)) ∧ RSnap.Own wx (fun b => wi.heap.size ≤ b ∧ b < wx.heap.size ∧ b ≠ P) [.slice y0 my0 dy0, .slice y1 my1 dy1] SX ∧ Below wi.heap.size wi wx ∧ wi.heap.size ≤ P ∧ P < wx.heap.size)
                    case first =>
                      refine wp_region_held_drew (S := fun w' => Below wi.heap.size wi w') (by kernel_rfl) ?_ (fun hHeld => ?_)
                      · (try dsimp only)
                        exact (Below.refl _ _).drew
                      refine tk 0 ?_ (hy := fun wS hSw => by (have p0 := cell_later hSw p0; have p1 := cell_later hSw p1; go_simp; (try with_reducible rfl)))
                      refine tk 1 ?_
                      refine tk 2 ?_
                      refine tk 3 ?_ (hy := fun wS hSw => by (go_simp; (try with_reducible rfl)))
                      refine tk 4 ?_
                      refine tk 5 ?_
                      refine tk 6 ?_ (hy := fun wS hSw => by (go_simp; (try with_reducible rfl)))
                      refine tk 7 ?_
                      obtain ⟨ud, hud⟩ : ∃ z, z = wi.drew := ⟨_, rfl⟩
                      have Yd : Below wi.heap.size wi ud := by rw [hud]; exact (Below.refl _ _).drew
                      have zud := Yd.size
                      rw [← hud]
                      clear hud
                      refine wpAnyH_ready (rs := [8, 12]) (by kernel_rfl) (by simp) ?_
                      refine AllReadyH.cons (o := ?_) ?_ (fun K hK => ?_) ?_
                      rotate_left
                      · (simp only [List.getElem?_toArray, List.getElem?_cons_zero, List.getElem?_cons_succ]; rfl)
                      · go_simp
                        go_at_call 7
                        refine (KS.out ud Yd).mono ?_
                        rintro e wc1 ⟨⟨y0, my0, dy0, y1, my1, dy1, rfl, hoy⟩, hbwc1⟩
                        have HBwc1 := Yd.trans (hbwc1.mono Yd.size)
                        have zwc1 := hbwc1.size
                        have HOY := Hid.mk hoy
                        clear hoy
                        (try go_wp2_with fail)
                        refine hK.out _ _ ?_ (fun hHeld' => ?_)
                        · (try dsimp only)
                          exact HBwc1
                        clear hK K hHeld
                        have hHeld := hHeld'
                        clear hHeld'
                        (try simp only [Act.put, List.setIfInBounds_toArray, List.set_cons_zero, List.set_cons_succ])
                        refine tk 9 ?_
                        refine tk 10 ?_
                        refine tk 11 ?_
                        refine wpAnyH_ready (rs := [12]) (by kernel_rfl) (by simp) ?_
                        refine AllReadyH.cons (o := ?_) ?_ (fun K hK => ?_) AllReadyH.nil
                        rotate_left
                        · (simp only [List.getElem?_toArray, List.getElem?_cons_zero, List.getElem?_cons_succ]; rfl)
                        go_simp
                        (try go_wp2_with fail)
                        refine hK.out _ _ ?_ (fun hHeld' => ?_)
                        · (try dsimp only)
                          exact HBwc1.alloc HBwc1.size _
                        clear hK K hHeld
                        have hHeld := hHeld'
                        clear hHeld'
                        (try simp only [Act.put, List.setIfInBounds_toArray, List.set_cons_zero, List.set_cons_succ])
                        obtain ⟨wc2, hvwc2⟩ : ∃ zz, zz = wc1.alloc (.cells #[.slice none 0 0, .slice none 0 0] 32) := ⟨_, rfl⟩
                        have hbwc2 : Below wc1.heap.size wc1 wc2 := by rw [hvwc2]; exact (Below.refl _ _).alloc (Nat.le_refl _) _
                        have HBwc2 := HBwc1.trans (hbwc2.mono HBwc1.size)
                        have pb : wc2.heap[wc1.heap.size]? = some (.cells #[.slice none 0 0, .slice none 0 0] 32 (0, 0)) := by rw [hvwc2]; exact heap_alloc_new _ _
                        have zwc2 : wc2.heap.size = wc1.heap.size + 1 := by rw [hvwc2]; simp
                        have HOY := Hid.mk (RSnap.ownBelow HOY.out hbwc2)
                        rw [← hvwc2]
                        clear hvwc2
                        have yy0 := blk_cell pb 0 (v := .slice none 0 0) rfl
                        have yy1 := blk_cell pb 1 (v := .slice none 0 0) rfl
                        have fy0 := blk_frozen pb 0
                        have fy1 := blk_frozen pb 1
                        have zl := HBwc2.size
                        have HBE : Below wi.heap.size wi ((wc2.setCell ⟨wc1.heap.size, 0, none⟩ (.slice y0 my0 dy0)).setCell ⟨wc1.heap.size, 1, none⟩ (.slice y1 my1 dy1)) := (HBwc2.setCell (by show wi.heap.size ≤ wc1.heap.size; omega) _).setCell (by show wi.heap.size ≤ wc1.heap.size; omega) _
                        refine wpAnyH_ready (rs := [13]) (by kernel_rfl) (by simp) ?_
                        refine AllReadyH.cons (o := ?_) ?_ (fun K hK => ?_) AllReadyH.nil
                        rotate_left
                        · (simp only [List.getElem?_toArray, List.getElem?_cons_zero, List.getElem?_cons_succ]; rfl)
                        go_simp
                        skip
                        (try go_wp2_with fail)
                        refine hK.out _ _ ?_ (fun hHeld' => ?_)
                        · (try dsimp only)
                          exact HBE
                        clear hK K hHeld
                        have hHeld := hHeld'
                        clear hHeld'
                        (try simp only [Act.put, List.setIfInBounds_toArray, List.set_cons_zero, List.set_cons_succ])
                        refine tk 14 ?_
                        refine wpAnyH_done (by kernel_rfl) ?_ _
                        (try go_wp2_with fail)
                        go_meet
                        case rel =>
                          exact ⟨wc1.heap.size, y0, my0, dy0, y1, my1, dy1, rfl, rfl, blk_set (blk_set pb 0 _) 1 _, RSnap.mono (RSnap.ownOff HOY.out ((Off.set (F := fun b => b = wc1.heap.size) (a := ⟨wc1.heap.size, 0, none⟩) rfl _).trans (Off.set (F := fun b => b = wc1.heap.size) (a := ⟨wc1.heap.size, 1, none⟩) rfl _)) (fun b h e => by have h2 : b = wc1.heap.size := e; have h3 := h.1; have h4 := h.2; omega)) (fun b h => ⟨by have := h.1; omega, by rw [size_set, size_set]; have := h.2; omega, fun e => by have := h.1; have := h.2; omega⟩), HBE, by omega, by rw [size_set, size_set]; omega⟩
                      refine AllReadyH.cons (o := ?_) ?_ (fun K hK => ?_) AllReadyH.nil
                      rotate_left
                      · (simp only [List.getElem?_toArray, List.getElem?_cons_zero, List.getElem?_cons_succ]; rfl)
                      · go_simp
                        (try go_wp2_with fail)
                        refine hK.out _ _ ?_ (fun hHeld' => ?_)
                        · (try dsimp only)
                          exact Yd.alloc Yd.size _
                        clear hK K hHeld
                        have hHeld := hHeld'
                        clear hHeld'
                        (try simp only [Act.put, List.setIfInBounds_toArray, List.set_cons_zero, List.set_cons_succ])
                        obtain ⟨wd1, hvwd1⟩ : ∃ zz, zz = ud.alloc (.cells #[.slice none 0 0, .slice none 0 0] 32) := ⟨_, rfl⟩
                        have hbwd1 : Below ud.heap.size ud wd1 := by rw [hvwd1]; exact (Below.refl _ _).alloc (Nat.le_refl _) _
                        have HBwd1 := Yd.trans (hbwd1.mono Yd.size)
                        have pb : wd1.heap[ud.heap.size]? = some (.cells #[.slice none 0 0, .slice none 0 0] 32 (0, 0)) := by rw [hvwd1]; exact heap_alloc_new _ _
                        have zwd1 : wd1.heap.size = ud.heap.size + 1 := by rw [hvwd1]; simp
                        rw [← hvwd1]
                        clear hvwd1
                        refine wpAnyH_ready (rs := [8]) (by kernel_rfl) (by simp) ?_
                        refine AllReadyH.cons (o := ?_) ?_ (fun K hK => ?_) AllReadyH.nil
                        rotate_left
                        · (simp only [List.getElem?_toArray, List.getElem?_cons_zero, List.getElem?_cons_succ]; rfl)
                        go_simp
                        go_at_call 7
                        refine (KS.out wd1 HBwd1).mono ?_
                        rintro e wd2 ⟨⟨y0, my0, dy0, y1, my1, dy1, rfl, hoy⟩, hbwd2⟩
                        have HBwd2 := HBwd1.trans (hbwd2.mono HBwd1.size)
                        have zwd2 := hbwd2.size
                        have HOY := Hid.mk hoy
                        clear hoy
                        have pb := blk_below pb hbwd2
                        (try go_wp2_with fail)
                        refine hK.out _ _ ?_ (fun hHeld' => ?_)
                        · (try dsimp only)
                          exact HBwd2
                        clear hK K hHeld
                        have hHeld := hHeld'
                        clear hHeld'
                        (try simp only [Act.put, List.setIfInBounds_toArray, List.set_cons_zero, List.set_cons_succ])
                        refine tk 9 ?_
                        refine tk 10 ?_
                        refine tk 11 ?_
                        have yy0 := blk_cell pb 0 (v := .slice none 0 0) rfl
                        have yy1 := blk_cell pb 1 (v := .slice none 0 0) rfl
                        have fy0 := blk_frozen pb 0
                        have fy1 := blk_frozen pb 1
                        have zl := HBwd2.size
                        have HBE : Below wi.heap.size wi ((wd2.setCell ⟨ud.heap.size, 0, none⟩ (.slice y0 my0 dy0)).setCell ⟨ud.heap.size, 1, none⟩ (.slice y1 my1 dy1)) := (HBwd2.setCell (by show wi.heap.size ≤ ud.heap.size; omega) _).setCell (by show wi.heap.size ≤ ud.heap.size; omega) _
                        refine wpAnyH_ready (rs := [13]) (by kernel_rfl) (by simp) ?_
                        refine AllReadyH.cons (o := ?_) ?_ (fun K hK => ?_) AllReadyH.nil
                        rotate_left
                        · (simp only [List.getElem?_toArray, List.getElem?_cons_zero, List.getElem?_cons_succ]; rfl)
                        go_simp
                        skip
                        (try go_wp2_with fail)
                        refine hK.out _ _ ?_ (fun hHeld' => ?_)
                        · (try dsimp only)
                          exact HBE
                        clear hK K hHeld
                        have hHeld := hHeld'
                        clear hHeld'
                        (try simp only [Act.put, List.setIfInBounds_toArray, List.set_cons_zero, List.set_cons_succ])
                        refine tk 14 ?_
                        refine wpAnyH_done (by kernel_rfl) ?_ _
                        (try go_wp2_with fail)
                        go_meet
                        case rel =>
                          exact ⟨ud.heap.size, y0, my0, dy0, y1, my1, dy1, rfl, rfl, blk_set (blk_set pb 0 _) 1 _, RSnap.mono (RSnap.ownOff HOY.out ((Off.set (F := fun b => b = ud.heap.size) (a := ⟨ud.heap.size, 0, none⟩) rfl _).trans (Off.set (F := fun b => b = ud.heap.size) (a := ⟨ud.heap.size, 1, none⟩) rfl _)) (fun b h e => by have h2 : b = ud.heap.size := e; have h3 := h.1; have h4 := h.2; omega)) (fun b h => ⟨by have := h.1; omega, by rw [size_set, size_set]; have := h.2; omega, fun e => by have := h.1; have := h.2; omega⟩), HBE, by omega, by rw [size_set, size_set]; omega⟩
                    case rest =>
                    obtain ⟨P, y0, my0, dy0, y1, my1, dy1, rfl, rfl, bP, hoy, BYX, zPa, zPb⟩ := hcut
                    obtain ⟨wX, rfl⟩ : ∃ x, x = wc := ⟨_, rfl⟩
                    have b0 := blk_below b0 BYX
                    have b1 := blk_below b1 BYX
                    have BX := Bwi.trans (BYX.mono Bwi.size)
                    have zYX := BYX.size
                    have HOY := Hid.mk hoy
                    clear hoy KS p0 p1 BYX hq hq2 hr hr2
                    cases SB with
                    | false =>
                      have hNO : fzOk (pa, wa) = false := by unfold fzOk fzV; rw [HGB.out, HAD.out, HRES.out, ← HRS.out, HM.out, fzS_no HAW.out HSB.out]; rfl
                      clear bP
                      obtain rfl : false = FO := by rw [← HFO.out, hNO]
                      obtain rfl : (0 : Int) = FN := by rw [← HFN.out]; unfold fzN; rw [hNO]; rfl
                      obtain rfl : (([], []) : TSnap) = FZ := by rw [← HFZ.out]; unfold fzZ; rw [hNO]; rfl
                      clear hNO
                      have y0 := blk_cell b1 0 (v := .slice none 0 0) rfl
                      have y1 := blk_cell b1 1 (v := .slice none 0 0) rfl
                      have fz0 := blk_frozen b1 0
                      have fz1 := blk_frozen b1 1
                      go_wp2
                      refine bodyPost_ret (v := .tuple #[.agg #[.slice none 0 0, .slice none 0 0], .int .i64 0, .bool false]) (by simp [results, Try.results26, go_sem, y0, y1]) rfl ⟨⟨none, 0, 0, none, 0, 0, rfl, RSnap.nil _ _⟩, ?_⟩
                      exact (BX.setCell (by show w.heap.size ≤ w.heap.size + 1; omega) _).setCell (by show w.heap.size ≤ w.heap.size + 1; omega) _
                    | true =>
                      obtain ⟨ps', ws'⟩ := SX
                      have hnx := fz_next HSB.out
                      rw [HSX.out] at hnx
                      have HNX := Hid.mk hnx
                      have HRN : Hid (fzS (2000 - (k + 1)) (ps', ws') (k + 1) = RES) := Hid.mk (by rw [← HRS.out, HM.out, fzS_yes HAW.out HSB.out, HSX.out, show 2000 - (k + 1) = 1999 - k by omega])
                      clear hnx
                      have p0 := blk_cell bP 0 (v := .slice y0 my0 dy0) rfl
                      have p1 := blk_cell bP 1 (v := .slice y1 my1 dy1) rfl
                      have o0 := blk_cell b0 0 (v := .slice r0 mr0 dr0) rfl
                      have o1 := blk_cell b0 1 (v := .slice (some ⟨rb, roff, none⟩) mr1 dr1) rfl
                      have fo0 := blk_frozen b0 0
                      have fo1 := blk_frozen b0 1
                      obtain ⟨Xr, hX⟩ : ∃ u, u = (wX.setCell ⟨w.heap.size, 0, none⟩ (.slice y0 my0 dy0)).setCell ⟨w.heap.size, 1, none⟩ (.slice y1 my1 dy1) := ⟨_, rfl⟩
                      have b0' : Xr.heap[w.heap.size]? = some (.cells #[.slice y0 my0 dy0, .slice y1 my1 dy1] 32 (0, 0)) := by rw [hX]; exact blk_set (blk_set b0 0 _) 1 _
                      have b1' : Xr.heap[w.heap.size + 1]? = some (.cells #[.slice none 0 0, .slice none 0 0] 32 (0, 0)) := by rw [hX]; exact blk_other (blk_other b1 (by show w.heap.size + 1 ≠ w.heap.size; omega) _) (by show w.heap.size + 1 ≠ w.heap.size; omega) _
                      have hS : Off (fun b => b = w.heap.size) wX Xr := by rw [hX]; exact (Off.set (F := fun b => b = w.heap.size) (a := ⟨w.heap.size, 0, none⟩) rfl _).trans (Off.set (F := fun b => b = w.heap.size) (a := ⟨w.heap.size, 1, none⟩) rfl _)
                      have zXr := hS.size
                      have BXr : Below w.heap.size w Xr := BX.trans (hS.belowOf (fun b h => by have h2 : b = w.heap.size := h; omega) (by omega))
                      have HREL : Hid (∃ (r0 : Option Addr) (mr0 dr0 : Nat) (r1 : Option Addr) (mr1 dr1 : Nat) (ps : List TProc) (ws : List TWire) (G : Nat → Prop), Xr.heap[w.heap.size]? = some (.cells #[.slice r0 mr0 dr0, .slice r1 mr1 dr1] 32 (0, 0)) ∧ Xr.heap[w.heap.size + 1]? = some (.cells #[.slice none 0 0, .slice none 0 0] 32 (0, 0)) ∧ RSnap.Own Xr G [.slice r0 mr0 dr0, .slice r1 mr1 dr1] (ps, ws) ∧ gsB (ps, ws) = true ∧ ps.length = n0 ∧ fzS (2000 - (k + 1)) (ps, ws) (k + 1) = RES ∧ (∀ b, G b → w.heap.size + 2 ≤ b ∧ b < Xr.heap.size) ∧ Below w.heap.size w Xr ∧ w.heap.size + 1 < Xr.heap.size) := Hid.mk ⟨y0, my0, dy0, y1, my1, dy1, ps', ws', _, b0', b1', RSnap.ownOff HOY.out hS (fun b h e => by have h2 : b = w.heap.size := e; have := h.1; omega), HNX.out.1, HNX.out.2.trans HLN.out, HRN.out, fun b h => ⟨by have := h.1; omega, by have := h.2.1; omega⟩, BXr, by omega⟩
                      clear b0 b1 b0' b1' hS bP HOY HOZ HRS HRN HNX HGG
                      go_upto_region 21 with fail
                      rw [← hX]
                      clear hX p0 p1 o0 o1 fo0 fo1
                      go_wp2
                      go_roundw
                      case rel =>
                        obtain ⟨r0, mr0, dr0, r1, mr1, dr1, ps, ws, G, q⟩ := HREL.out
                        exact ⟨k + 1, r0, mr0, dr0, r1, mr1, dr1, ps, ws, G, by go_num, by omega, q⟩
                      case measure => simp [intOf]; omega
                · obtain rfl : mr1 = m := by omega
                  have hlji : ¬ (mr1 : Int) < (mr1 : Int) := by omega
                  have haw : ws.any hasW = false := by
                    rw [List.any_eq_false]
                    intro v hv
                    obtain ⟨i, hi, rfl⟩ := List.getElem_of_mem hv
                    rw [hf i _ (by omega) (List.getElem?_eq_getElem hi)]
                    simp
                  have HAW : Hid (((ps, ws) : TSnap).2.any hasW = false) := Hid.mk haw
                  obtain ⟨K, rfl⟩ : ∃ K, K = k := ⟨_, rfl⟩
                  have HVV : Hid ((true, K, (ps, ws)) = fzV (pa, wa)) := Hid.mk (by unfold fzV; rw [HRES.out, ← HRS.out, fzS_end HAW.out])
                  have HOZ := Hid.mk hoz
                  have HJZ := Hid.mk hjz
                  clear hf u0l u0n u0a u1l u1n u1a haw hoz hjz hln hbj
                  have p0 := blk_cell b0 0 (v := .slice r0 mr0 dr0) rfl
                  have p1 := blk_cell b0 1 (v := .slice r1 mr1 dr1) rfl
                  go_upto_region 22 with fail
                  clear p0 p1
                  have HV := HVV
                  have hq := RSnap.at_iff (RSnap.toAt HOZ.out)
                  have hgw := gs_wires HJZ.out
                  have KPi := Hid.mk (specPictureOf r0 mr0 dr0 r1 mr1 dr1 ps ws wi hq.1.1 hq.2.1 (by rw [← hq.1.1]; exact hgw.1) (by rw [← hq.2.1]; exact hgw.2.1) hgw.2.2 hq.1.2.2.1 hq.2.2.2.1)
                  obtain ⟨PQ, hPQ⟩ : ∃ y, picB (ps, ws) = y := ⟨_, rfl⟩
                  rw [hPQ] at KPi
                  have HPQ := Hid.mk hPQ
                  clear hq hgw hPQ
                  have p0 := blk_cell b0 0 (v := .slice r0 mr0 dr0) rfl
                  have p1 := blk_cell b0 1 (v := .slice r1 mr1 dr1) rfl
                  go_wp2_with fail
                  refine KPi.out.mono ?_
                  rintro e w9 ⟨rfl, hb9⟩
                  have b1 := blk_below b1 hb9
                  have b0 := blk_below b0 hb9
                  have z9 := hb9.size
                  have B9 := Bwi.trans (hb9.mono Bwi.size)
                  have HOT := Hid.mk (RSnap.ownBelow HOZ.out hb9)
                  clear KPi hb9 p0 p1 HOZ
                  cases PQ with
                  | false =>
                    have hNO : fzOk (pa, wa) = false := by unfold fzOk; rw [HGB.out, HAD.out, ← HV.out]; exact HPQ.out
                    obtain rfl : false = FO := by rw [← HFO.out, hNO]
                    obtain rfl : (0 : Int) = FN := by rw [← HFN.out]; unfold fzN; rw [hNO]; rfl
                    obtain rfl : (([], []) : TSnap) = FZ := by rw [← HFZ.out]; unfold fzZ; rw [hNO]; rfl
                    clear hNO
                    have y0 := blk_cell b1 0 (v := .slice none 0 0) rfl
                    have y1 := blk_cell b1 1 (v := .slice none 0 0) rfl
                    have fz0 := blk_frozen b1 0
                    have fz1 := blk_frozen b1 1
                    go_wp2
                    refine bodyPost_ret (v := .tuple #[.agg #[.slice none 0 0, .slice none 0 0], .int .i64 0, .bool false]) (by simp [results, Try.results26, go_sem, y0, y1]) rfl ⟨⟨none, 0, 0, none, 0, 0, rfl, RSnap.nil _ _⟩, ?_⟩
                    exact (B9.setCell (by show w.heap.size ≤ w.heap.size + 1; omega) _).setCell (by show w.heap.size ≤ w.heap.size + 1; omega) _
                  | true =>
                    have HOK : Hid (fzOk (pa, wa) = true) := Hid.mk (by unfold fzOk; rw [HGB.out, HAD.out, ← HV.out]; exact HPQ.out)
                    have p0 := blk_cell b0 0 (v := .slice r0 mr0 dr0) rfl
                    have p1 := blk_cell b0 1 (v := .slice r1 mr1 dr1) rfl
                    have y0 := blk_cell b1 0 (v := .slice none 0 0) rfl
                    have y1 := blk_cell b1 1 (v := .slice none 0 0) rfl
                    have fz0 := blk_frozen b1 0
                    have fz1 := blk_frozen b1 1
                    obtain ⟨Y, hY⟩ : ∃ u, u = (w9.setCell ⟨w.heap.size + 1, 0, none⟩ (.slice r0 mr0 dr0)).setCell ⟨w.heap.size + 1, 1, none⟩ (.slice r1 mr1 dr1) := ⟨_, rfl⟩
                    have S1 : Off (fun b => b = w.heap.size + 1) w9 Y := by rw [hY]; exact (Off.set (F := fun b => b = w.heap.size + 1) (a := ⟨w.heap.size + 1, 0, none⟩) rfl _).trans (Off.set (F := fun b => b = w.heap.size + 1) (a := ⟨w.heap.size + 1, 1, none⟩) rfl _)
                    have RR : Hid (FzRet (.returned (.tuple #[.agg #[.slice r0 mr0 dr0, .slice r1 mr1 dr1], .int .i64 (K : Nat), .bool true])) Y w.heap.size FN FO FZ ∧ Below w.heap.size w Y) := Hid.mk (by
                      have zS := S1.size
                      rw [← HFO.out, ← HFN.out, ← HFZ.out]
                      unfold fzN fzZ
                      rw [HOK.out, ← HV.out]
                      refine ⟨⟨r0, mr0, dr0, r1, mr1, dr1, rfl, RSnap.mono (RSnap.ownOff HOT.out S1 (fun b h e => by have h2 : b = w.heap.size + 1 := e; have := (HGG.out b h).1; omega)) (fun b h => ?_)⟩, B9.trans (S1.belowOf (fun b h => by have h2 : b = w.heap.size + 1 := h; omega) (by omega))⟩
                      have := HGG.out b h
                      exact ⟨by omega, by omega⟩)
                    have HY := Hid.mk hY
                    clear S1 hY
                    go_wp2
                    refine bodyPost_ret (v := .tuple #[.agg #[.slice r0 mr0 dr0, .slice r1 mr1 dr1], .int .i64 (K : Nat), .bool true]) (by simp [results, Try.results26, go_sem, y0, y1]) rfl ?_
                    have h := RR.out
                    rw [HY.out] at h
                    exact h
            · have hlti : ¬ (k : Int) < 2000 := by omega
              obtain ⟨K, rfl⟩ : ∃ K, K = k := ⟨_, rfl⟩
              have HVV : Hid ((true, K, (ps, ws)) = fzV (pa, wa)) := Hid.mk (by unfold fzV; rw [HRES.out, ← HRS.out, show 2000 - K = 0 by omega]; rfl)
              have HOZ := Hid.mk hoz
              have HJZ := Hid.mk hjz
              clear hoz hjz hln
              have HV := HVV
              have hq := RSnap.at_iff (RSnap.toAt HOZ.out)
              have hgw := gs_wires HJZ.out
              have KPi := Hid.mk (specPictureOf r0 mr0 dr0 r1 mr1 dr1 ps ws wY hq.1.1 hq.2.1 (by rw [← hq.1.1]; exact hgw.1) (by rw [← hq.2.1]; exact hgw.2.1) hgw.2.2 hq.1.2.2.1 hq.2.2.2.1)
              obtain ⟨PQ, hPQ⟩ : ∃ y, picB (ps, ws) = y := ⟨_, rfl⟩
              rw [hPQ] at KPi
              have HPQ := Hid.mk hPQ
              clear hq hgw hPQ
              have p0 := blk_cell b0 0 (v := .slice r0 mr0 dr0) rfl
              have p1 := blk_cell b0 1 (v := .slice r1 mr1 dr1) rfl
              go_wp2_with fail
              refine KPi.out.mono ?_
              rintro e w9 ⟨rfl, hb9⟩
              have b1 := blk_below b1 hb9
              have b0 := blk_below b0 hb9
              have z9 := hb9.size
              have B9 := BwY.trans (hb9.mono BwY.size)
              have HOT := Hid.mk (RSnap.ownBelow HOZ.out hb9)
              clear KPi hb9 p0 p1 HOZ
              cases PQ with
              | false =>
                have hNO : fzOk (pa, wa) = false := by unfold fzOk; rw [HGB.out, HAD.out, ← HV.out]; exact HPQ.out
                obtain rfl : false = FO := by rw [← HFO.out, hNO]
                obtain rfl : (0 : Int) = FN := by rw [← HFN.out]; unfold fzN; rw [hNO]; rfl
                obtain rfl : (([], []) : TSnap) = FZ := by rw [← HFZ.out]; unfold fzZ; rw [hNO]; rfl
                clear hNO
                have y0 := blk_cell b1 0 (v := .slice none 0 0) rfl
                have y1 := blk_cell b1 1 (v := .slice none 0 0) rfl
                have fz0 := blk_frozen b1 0
                have fz1 := blk_frozen b1 1
                go_wp2
                refine bodyPost_ret (v := .tuple #[.agg #[.slice none 0 0, .slice none 0 0], .int .i64 0, .bool false]) (by simp [results, Try.results26, go_sem, y0, y1]) rfl ⟨⟨none, 0, 0, none, 0, 0, rfl, RSnap.nil _ _⟩, ?_⟩
                exact (B9.setCell (by show w.heap.size ≤ w.heap.size + 1; omega) _).setCell (by show w.heap.size ≤ w.heap.size + 1; omega) _
              | true =>
                have HOK : Hid (fzOk (pa, wa) = true) := Hid.mk (by unfold fzOk; rw [HGB.out, HAD.out, ← HV.out]; exact HPQ.out)
                have p0 := blk_cell b0 0 (v := .slice r0 mr0 dr0) rfl
                have p1 := blk_cell b0 1 (v := .slice r1 mr1 dr1) rfl
                have y0 := blk_cell b1 0 (v := .slice none 0 0) rfl
                have y1 := blk_cell b1 1 (v := .slice none 0 0) rfl
                have fz0 := blk_frozen b1 0
                have fz1 := blk_frozen b1 1
                obtain ⟨Y, hY⟩ : ∃ u, u = (w9.setCell ⟨w.heap.size + 1, 0, none⟩ (.slice r0 mr0 dr0)).setCell ⟨w.heap.size + 1, 1, none⟩ (.slice r1 mr1 dr1) := ⟨_, rfl⟩
                have S1 : Off (fun b => b = w.heap.size + 1) w9 Y := by rw [hY]; exact (Off.set (F := fun b => b = w.heap.size + 1) (a := ⟨w.heap.size + 1, 0, none⟩) rfl _).trans (Off.set (F := fun b => b = w.heap.size + 1) (a := ⟨w.heap.size + 1, 1, none⟩) rfl _)
                have RR : Hid (FzRet (.returned (.tuple #[.agg #[.slice r0 mr0 dr0, .slice r1 mr1 dr1], .int .i64 (K : Nat), .bool true])) Y w.heap.size FN FO FZ ∧ Below w.heap.size w Y) := Hid.mk (by
                  have zS := S1.size
                  rw [← HFO.out, ← HFN.out, ← HFZ.out]
                  unfold fzN fzZ
                  rw [HOK.out, ← HV.out]
                  refine ⟨⟨r0, mr0, dr0, r1, mr1, dr1, rfl, RSnap.mono (RSnap.ownOff HOT.out S1 (fun b h e => by have h2 : b = w.heap.size + 1 := e; have := (HGG.out b h).1; omega)) (fun b h => ?_)⟩, B9.trans (S1.belowOf (fun b h => by have h2 : b = w.heap.size + 1 := h; omega) (by omega))⟩
                  have := HGG.out b h
                  exact ⟨by omega, by omega⟩)
                have HY := Hid.mk hY
                clear S1 hY
                go_wp2
                refine bodyPost_ret (v := .tuple #[.agg #[.slice r0 mr0 dr0, .slice r1 mr1 dr1], .int .i64 (K : Nat), .bool true]) (by simp [results, Try.results26, go_sem, y0, y1]) rfl ?_
                have h := RR.out
                rw [HY.out] at h
                exact h

end Go.Proofs.Ytnfdncofobkjhaa
