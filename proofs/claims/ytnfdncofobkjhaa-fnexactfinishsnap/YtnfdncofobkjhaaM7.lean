/- Contract of impl.copySnap. -/
import Derived.Test.YtnfdncofobkjhaaM6
import Derived.Deep.CutBlock
import Derived.Deep.DeepCutAuto
namespace Go.Proofs.Ytnfdncofobkjhaa
open Go.RowKit

def WRows (w : World) (ws : List TWire) (L : List Value) : Prop := ∀ i x, ws[i]? = some x → WCells w x (sub L (i * 3) 3)
theorem WCells.below {w w' : World} {x : TWire} {vs : List Value} (h : WCells w x vs) (hb : Below w.heap.size w w') : WCells w' x vs := by
  obtain ⟨a0, c0, a1, c1, e, h0, k0, h1, k1⟩ := h
  exact ⟨a0, c0, a1, c1, e, h0.below hb, k0, h1.below hb, k1⟩
theorem WRows.below {w w' : World} {ws : List TWire} {L : List Value} (h : WRows w ws L) (hb : Below w.heap.size w w') : WRows w' ws L := fun i x hx => (h i x hx).below hb

theorem owns_off2 {w : World} {e : TypeId} {k g n c PB : Nat} {xs : List Value} (h : w.ownsRow 0 e k (.slice (some ⟨g, 0, none⟩) n c) n xs) (hg : g ≠ PB) (i j : Nat) (v v' : Value) :
    ((w.setCell ⟨PB, i, none⟩ v).setCell ⟨PB, j, none⟩ v').ownsRow 0 e k (.slice (some ⟨g, 0, none⟩) n c) n xs :=
  ownsRow_frame h (fun b hb _ => by
    simp [Value.ownBlock] at hb
    rw [← hb]
    exact (Below.heap_setCell _ _ _ _ hg).trans (Below.heap_setCell _ _ _ _ hg))
theorem CW.begin {w : World} {lo g0 n0 c0 g1 n1 c1 : Nat} {ps : List TProc} {ws : List TWire} {cells0 cells1 : List Value} (h0 : ps.length = n0) (h1 : ws.length = n1) (hn0 : n0 ≤ 4) (hn1 : n1 ≤ 16)
    (ho0 : w.ownsRow 0 74 3 (.slice (some ⟨g0, 0, none⟩) n0 c0) n0 cells0) (ho1 : w.ownsRow 0 76 3 (.slice (some ⟨g1, 0, none⟩) n1 c1) n1 cells1) (hr0 : ∀ (i : Nat) (p : TProc), ps[i]? = some p → sub cells0 (i * 3) 3 = [.int .i64 p.1, .int .i64 p.2.1, .bool p.2.2])
    (l0 : lo ≤ g0 ∧ g0 < w.heap.size) (l1 : lo ≤ g1 ∧ g1 < w.heap.size) (ne : g0 ≠ g1) : CW w lo g0 n0 c0 g1 n1 c1 ps ws cells0 cells1 (fun _ _ => False) 0 := by
  refine ⟨⟨h0, by omega, ho0, fun b hb => ?_, fun i x hi hx => ?_, fun _ _ _ hb => hb.elim, fun _ _ _ _ _ _ hb => hb.elim⟩, ⟨h1, by omega, ho1, fun b hb => ?_, fun i x hi hx => by omega, fun _ _ _ hb => hb.elim, fun _ _ _ _ _ _ hb => hb.elim⟩, ne, fun _ _ _ hb => hb.elim⟩
  · simp [Value.ownBlock] at hb
    rw [← hb]; exact l0
  · show RProc.Own w _ (sub cells0 (i * 3) 3) x
    rw [hr0 i x hx]
    exact RProc.own_mk
  · simp [Value.ownBlock] at hb
    rw [← hb]; exact l1

theorem CW.cellAt {w : World} {lo g0 n0 c0 g1 n1 c1 m : Nat} {ps : List TProc} {ws : List TWire} {cells0 cells1 : List Value} {G : Nat → Nat → Prop} (h : CW w lo g0 n0 c0 g1 n1 c1 ps ws cells0 cells1 G m) {k j : Nat} (hk : k < n1) (hj : j < 3) :
    w.cell? ⟨g1, k * 3 + j, none⟩ = (sub cells1 (k * 3) 3)[j]? := by
  rw [sub_at hj]
  exact h.wi.outer.cellAt _ (show k * 3 + j < n1 * 3 by omega)
theorem CW.frozen {w : World} {lo g0 n0 c0 g1 n1 c1 m : Nat} {ps : List TProc} {ws : List TWire} {cells0 cells1 : List Value} {G : Nat → Nat → Prop} (h : CW w lo g0 n0 c0 g1 n1 c1 ps ws cells0 cells1 G m) (o : Nat) : w.frozen? ⟨g1, o, none⟩ = false := h.wi.outer.frozenAt _
theorem sub_sets3 {cells vs : List Value} {k n : Nat} (hl : cells.length = n * 3) (hk : k < n) (hv : vs.length = 3) : sub (sets cells (k * 3) vs) (k * 3) 3 = vs := by
  have q := sub_sets cells (k * 3) vs (by omega)
  rw [hv] at q
  exact q

theorem cell_far {w : World} {b b' o o' : Nat} (v : Value) (h : b' ≠ b) : (w.setCell ⟨b, o, none⟩ v).cell? ⟨b', o', none⟩ = w.cell? ⟨b', o', none⟩ := World.cell?_of_block (Below.heap_setCell w ⟨b, o, none⟩ v b' h)
theorem owns_far {w : World} {e : TypeId} {base k n d b o : Nat} {r : Option Addr} {xs : List Value} (h : w.ownsRow base e k (.slice r n d) n xs) (hb : b < base) (v : Value) : (w.setCell ⟨b, o, none⟩ v).ownsRow base e k (.slice r n d) n xs :=
  ownsRow_frame h (fun b' hb' _ => Below.heap_setCell _ _ _ _ (fun e => by have q : b' = b := e; have := (h.lt b' hb').1; omega))
theorem SV.mono {w : World} {lo lo' : Nat → Prop} {g0 n0 c0 g1 n1 c1 : Nat} {ps : List TProc} {ws : List TWire} {cells0 cells1 : List Value} {G : Nat → Nat → Prop} (h : SV w lo g0 n0 c0 g1 n1 c1 ps ws cells0 cells1 G) (hl : ∀ b, lo b → lo' b) : SV w lo' g0 n0 c0 g1 n1 c1 ps ws cells0 cells1 G :=
  ⟨h.pr.mono (fun b k => ⟨hl b k.1, k.2⟩), h.wi.mono (fun b k => ⟨hl b k.1, k.2⟩), h.ne, h.ap, fun b k => hl b (h.up b k)⟩

theorem SV.frame {w w' : World} {lo : Nat → Prop} {g0 n0 c0 g1 n1 c1 : Nat} {ps : List TProc} {ws : List TWire} {cells0 cells1 : List Value} {G : Nat → Nat → Prop} (h : SV w lo g0 n0 c0 g1 n1 c1 ps ws cells0 cells1 G) (hw : ∀ b, lo b → b < w.heap.size → w'.heap[b]? = w.heap[b]?) (hs : w.heap.size ≤ w'.heap.size) : SV w' lo g0 n0 c0 g1 n1 c1 ps ws cells0 cells1 G :=
  ⟨(h.pr.frame (fun b k hk => hw b k.1 hk)).mono (fun _ k => ⟨k.1, Nat.lt_of_lt_of_le k.2 hs⟩), (h.wi.frame (fun b k hk => hw b k.1 hk)).mono (fun _ k => ⟨k.1, Nat.lt_of_lt_of_le k.2 hs⟩), h.ne, h.ap, fun b k => h.up b (Nat.le_trans hs k)⟩
/-- The snap holds what it holds, and nothing of it lies in one block that is named. -/
theorem SV.shun {w : World} {lo : Nat → Prop} {g0 n0 c0 g1 n1 c1 P : Nat} {ps : List TProc} {ws : List TWire} {cells0 cells1 : List Value} {G : Nat → Nat → Prop} (h : SV w lo g0 n0 c0 g1 n1 c1 ps ws cells0 cells1 G) (hP : w.heap.size ≤ P) {w' : World} (hb : Below w.heap.size w w') (hz : P < w'.heap.size) : SV w' (fun b => lo b ∧ b ≠ P) g0 n0 c0 g1 n1 c1 ps ws cells0 cells1 G :=
  ⟨(h.pr.below hb).mono (fun b k => ⟨⟨k.1, by have := k.2; omega⟩, Nat.lt_of_lt_of_le k.2 hb.size⟩), (h.wi.below hb).mono (fun b k => ⟨⟨k.1, by have := k.2; omega⟩, Nat.lt_of_lt_of_le k.2 hb.size⟩), h.ne, h.ap, fun b k => ⟨h.up b (by have := hb.size; omega), by omega⟩⟩

set_option maxRecDepth 100000 in
set_option maxHeartbeats 8000000 in
theorem copySnap_any (a0 : Option Addr) (n0 c0 : Nat) (a1 : Option Addr) (n1 c1 : Nat) (ps : List TProc) (ws : List TWire) (w : World) (h0 : ps.length = n0) (h1 : ws.length = n1) (hp0 : 0 < n0) (hn0 : n0 ≤ 4) (hp1 : 0 < n1) (hn1 : n1 ≤ 16)
    (hsm : ∀ (i : Nat) (x : TWire), ws[i]? = some x → x.1.length ≤ 1048576 ∧ x.2.1.length ≤ 1048576) (ha0 : AtSl RProc w a0 ps) (ha1 : AtSl RWire w a1 ws) :
    Calls Try.prog 36 #[.agg #[.slice a0 n0 c0, .slice a1 n1 c1]] w fun e w' => ∃ g0 d0 g1 d1 cells0 cells1 G, e = .returned (.agg #[.slice (some ⟨g0, 0, none⟩) n0 d0, .slice (some ⟨g1, 0, none⟩) n1 d1]) ∧ SV w' (fun b => w.heap.size ≤ b) g0 n0 d0 g1 n1 d1 ps ws cells0 cells1 G ∧ Below w.heap.size w w' := by
  obtain ⟨W, hW⟩ : ∃ W, W = (w.alloc (.cells #[.slice a0 n0 c0, .slice a1 n1 c1] 32)).alloc (.cells #[.slice none 0 0, .slice none 0 0] 32) := ⟨_, rfl⟩
  have zW : W.heap.size = w.heap.size + 1 + 1 := by rw [hW]; simp
  have B0 : Below w.heap.size w W := by rw [hW]; exact ((Below.refl _ _).alloc (Nat.le_refl _) _).alloc (by simp) _
  have q0 : W.cell? ⟨w.heap.size, 0, none⟩ = some (.slice a0 n0 c0) := by rw [hW]; simp [go_sem]
  have q1 : W.cell? ⟨w.heap.size, 1, none⟩ = some (.slice a1 n1 c1) := by rw [hW]; simp [go_sem]
  have b1 : W.heap[w.heap.size + 1]? = some (.cells #[.slice none 0 0, .slice none 0 0] 32 (0, 0)) := by
    rw [hW]
    have h := heap_alloc_new (w.alloc (.cells #[.slice a0 n0 c0, .slice a1 n1 c1] 32)) (.cells #[.slice none 0 0, .slice none 0 0] 32)
    simpa only [World.size_alloc] using h
  have KP : Hid (∀ V, Below W.heap.size W V → _) := Hid.mk (fun V hV => cloneProc_any a0 n0 c0 ps V h0 hp0 (by omega) ((ha0.below B0).below hV))
  have KW : Hid (∀ V, Below W.heap.size W V → _) := Hid.mk (fun V hV => cloneWire_any a1 n1 c1 ws W V hV h1 hp1 (by omega) (ha1.below B0))
  have H0 := Hid.mk h0
  have H1 := Hid.mk h1
  have HSM := Hid.mk hsm
  have HA1 := Hid.mk (ha1.below B0)
  have zlt : w.heap.size < W.heap.size := by omega
  clear h0 h1 hsm ha0 ha1
  go_enter Try.func36, Try.ntmps36
  go_upto_region 1 with fail
  rw [← hW]
  clear hW
  go_cut [3] (fun p wx => ∃ (Pb g0 d0 g1 d1 : Nat) (cells0 cells1 : List Value), p = .pointer (some ⟨Pb, 0, none⟩) ∧ wx.heap[Pb]? = some (.cells #[.slice (some ⟨g0, 0, none⟩) n0 d0, .slice (some ⟨g1, 0, none⟩) n1 d1] 32 (0, 0)) ∧ CW wx W.heap.size g0 n0 d0 g1 n1 d1 ps ws cells0 cells1 (fun _ _ => False) 0 ∧ WRows W ws cells1 ∧
    W.heap.size ≤ Pb ∧ g0 ≠ Pb ∧ g1 ≠ Pb ∧ Pb < wx.heap.size ∧ Below W.heap.size W wx)
  case first =>
    refine wp_region_held_drew (S := fun w' => w'.cell? ⟨w.heap.size, 0, none⟩ = some (.slice a0 n0 c0) ∧ w'.cell? ⟨w.heap.size, 1, none⟩ = some (.slice a1 n1 c1)) (by kernel_rfl) ?_ (fun hHeld => ?_)
    · (try dsimp only)
      exact ⟨q0, q1⟩
    refine tk 0 ?_
    refine tk 1 ?_
    refine tk 3 ?_
    refine tk 4 ?_
    obtain ⟨u0, hu0⟩ : ∃ u, u = W.drew := ⟨_, rfl⟩
    have Y0 : Below W.heap.size W u0 := by rw [hu0]; exact (Below.refl _ _).drew
    have zu0 := Y0.size
    rw [← hu0]
    clear hu0
    refine wpAnyH_ready (rs := [2, 7]) (by kernel_rfl) (by simp) ?_
    refine AllReadyH.cons (o := ?_) ?_ (fun K hK => ?_) ?_
    rotate_left
    · (simp only [List.getElem?_toArray, List.getElem?_cons_zero, List.getElem?_cons_succ]; rfl)
    · go_simp
      go_at_call 65
      refine (KP.out u0 Y0).mono ?_
      rintro e wk1 ⟨g0, d0, L0, rfl, ho0, hr0, hbk1⟩
      have HBk1 : Below W.heap.size W wk1 := Y0.trans (hbk1.mono Y0.size)
      have lg0 := ho0.lt g0 rfl
      have HO0 := Hid.mk (owns_mono ho0 (Nat.zero_le _))
      have HR0 := Hid.mk hr0
      have sz0 := hbk1.size
      clear ho0 hr0
      (try go_wp2_with fail)
      refine hK.out _ _ ?_ (fun hHeld' => ?_)
      · (try dsimp only)
        exact ⟨(HBk1.cell zlt).trans q0, (HBk1.cell zlt).trans q1⟩
      clear hK K hHeld
      have hHeld := hHeld'
      clear hHeld'
      (try simp only [Act.put, List.setIfInBounds_toArray, List.set_cons_zero, List.set_cons_succ])
      refine wpAnyH_ready (rs := [5, 7]) (by kernel_rfl) (by simp) ?_
      refine AllReadyH.cons (o := ?_) ?_ (fun K hK => ?_) ?_
      rotate_left
      · (simp only [List.getElem?_toArray, List.getElem?_cons_zero, List.getElem?_cons_succ]; rfl)
      · go_simp
        go_at_call 66
        refine (KW.out wk1 HBk1).mono ?_
        rintro e wk2 ⟨g1, d1, L1, rfl, ho1, hr1, hbk2⟩
        have HBk2 : Below W.heap.size W wk2 := HBk1.trans (hbk2.mono HBk1.size)
        have HO0 := Hid.mk (owns_below HO0.out hbk2)
        have lg1 := ho1.lt g1 rfl
        have HO1 := Hid.mk (owns_mono ho1 (Nat.zero_le _))
        have HR1 : Hid (WRows W ws L1) := Hid.mk hr1
        have sz1 := hbk2.size
        clear ho1 hr1
        (try go_wp2_with fail)
        refine hK.out _ _ ?_ (fun hHeld' => ?_)
        · (try dsimp only)
          exact ⟨(HBk2.cell zlt).trans q0, (HBk2.cell zlt).trans q1⟩
        clear hK K hHeld
        have hHeld := hHeld'
        clear hHeld'
        (try simp only [Act.put, List.setIfInBounds_toArray, List.set_cons_zero, List.set_cons_succ])
        refine tk 6 ?_
        refine wpAnyH_ready (rs := [7]) (by kernel_rfl) (by simp) ?_
        refine AllReadyH.cons (o := ?_) ?_ (fun K hK => ?_) AllReadyH.nil
        rotate_left
        · (simp only [List.getElem?_toArray, List.getElem?_cons_zero, List.getElem?_cons_succ]; rfl)
        go_simp
        (try go_wp2_with fail)
        refine hK.out _ _ ?_ (fun hHeld' => ?_)
        · (try dsimp only)
          exact ⟨((HBk2.alloc HBk2.size _).cell zlt).trans q0, ((HBk2.alloc HBk2.size _).cell zlt).trans q1⟩
        clear hK K hHeld
        have hHeld := hHeld'
        clear hHeld'
        (try simp only [Act.put, List.setIfInBounds_toArray, List.set_cons_zero, List.set_cons_succ])
        obtain ⟨vk3, hv3⟩ : ∃ u, u = wk2.alloc (.cells #[.slice none 0 0, .slice none 0 0] 32) := ⟨_, rfl⟩
        have hbk3 : Below wk2.heap.size wk2 vk3 := by rw [hv3]; exact (Below.refl _ _).alloc (Nat.le_refl _) _
        have HBk3 : Below W.heap.size W vk3 := HBk2.trans (hbk3.mono HBk2.size)
        have HO0 := Hid.mk (owns_below HO0.out hbk3)
        have HO1 := Hid.mk (owns_below HO1.out hbk3)
        have pb : vk3.heap[wk2.heap.size]? = some (.cells #[.slice none 0 0, .slice none 0 0] 32 (0, 0)) := by rw [hv3]; exact heap_alloc_new _ _
        have szP : wk2.heap.size < vk3.heap.size := by rw [hv3]; simp
        rw [← hv3]
        clear hv3
        have szE := HBk3.size
        have qs0 := blk_cell pb 0 (v := .slice none 0 0) rfl
        have qs1 := blk_cell pb 1 (v := .slice none 0 0) rfl
        have fs0 := blk_frozen pb 0
        have fs1 := blk_frozen pb 1
        have HBE : Below W.heap.size W ((vk3.setCell ⟨wk2.heap.size, 0, none⟩ (.slice (some ⟨g0, 0, none⟩) n0 d0)).setCell ⟨wk2.heap.size, 1, none⟩ (.slice (some ⟨g1, 0, none⟩) n1 d1)) := (HBk3.setCell (by show W.heap.size ≤ wk2.heap.size; omega) _).setCell (by show W.heap.size ≤ wk2.heap.size; omega) _
        refine wpAnyH_ready (rs := [8]) (by kernel_rfl) (by simp) ?_
        refine AllReadyH.cons (o := ?_) ?_ (fun K hK => ?_) AllReadyH.nil
        rotate_left
        · (simp only [List.getElem?_toArray, List.getElem?_cons_zero, List.getElem?_cons_succ]; rfl)
        go_simp
        skip
        (try go_wp2_with fail)
        refine hK.out _ _ ?_ (fun hHeld' => ?_)
        · (try dsimp only)
          exact ⟨(HBE.cell zlt).trans q0, (HBE.cell zlt).trans q1⟩
        clear hK K hHeld
        have hHeld := hHeld'
        clear hHeld'
        (try simp only [Act.put, List.setIfInBounds_toArray, List.set_cons_zero, List.set_cons_succ])
        refine wpAnyH_done (by kernel_rfl) ?_ _
        (try go_wp2_with fail)
        go_meet
        case rel =>
          refine ⟨wk2.heap.size, g0, d0, g1, d1, L0, L1, rfl, blk_set (blk_set pb 0 _) 1 _, ?_, HR1.out, by omega, by omega, by omega, ?_, HBE⟩
          · exact CW.begin H0.out H1.out hn0 hn1 (owns_off2 HO0.out (by omega) _ _ _ _) (owns_off2 HO1.out (by omega) _ _ _ _) HR0.out ⟨by omega, by rw [size_set, size_set]; omega⟩ ⟨by omega, by rw [size_set, size_set]; omega⟩ (by omega)
          · rw [size_set, size_set]; omega
      refine AllReadyH.cons (o := ?_) ?_ (fun K hK => ?_) AllReadyH.nil
      rotate_left
      · (simp only [List.getElem?_toArray, List.getElem?_cons_zero, List.getElem?_cons_succ]; rfl)
      · go_simp
        (try go_wp2_with fail)
        refine hK.out _ _ ?_ (fun hHeld' => ?_)
        · (try dsimp only)
          exact ⟨((HBk1.alloc HBk1.size _).cell zlt).trans q0, ((HBk1.alloc HBk1.size _).cell zlt).trans q1⟩
        clear hK K hHeld
        have hHeld := hHeld'
        clear hHeld'
        (try simp only [Act.put, List.setIfInBounds_toArray, List.set_cons_zero, List.set_cons_succ])
        obtain ⟨vk4, hv4⟩ : ∃ u, u = wk1.alloc (.cells #[.slice none 0 0, .slice none 0 0] 32) := ⟨_, rfl⟩
        have hbk4 : Below wk1.heap.size wk1 vk4 := by rw [hv4]; exact (Below.refl _ _).alloc (Nat.le_refl _) _
        have HBk4 : Below W.heap.size W vk4 := HBk1.trans (hbk4.mono HBk1.size)
        have HO0 := Hid.mk (owns_below HO0.out hbk4)
        have pb : vk4.heap[wk1.heap.size]? = some (.cells #[.slice none 0 0, .slice none 0 0] 32 (0, 0)) := by rw [hv4]; exact heap_alloc_new _ _
        have szP : wk1.heap.size < vk4.heap.size := by rw [hv4]; simp
        rw [← hv4]
        clear hv4
        refine wpAnyH_ready (rs := [5]) (by kernel_rfl) (by simp) ?_
        refine AllReadyH.cons (o := ?_) ?_ (fun K hK => ?_) AllReadyH.nil
        rotate_left
        · (simp only [List.getElem?_toArray, List.getElem?_cons_zero, List.getElem?_cons_succ]; rfl)
        go_simp
        go_at_call 66
        refine (KW.out vk4 HBk4).mono ?_
        rintro e wk5 ⟨g1, d1, L1, rfl, ho1, hr1, hbk5⟩
        have HBk5 : Below W.heap.size W wk5 := HBk4.trans (hbk5.mono HBk4.size)
        have HO0 := Hid.mk (owns_below HO0.out hbk5)
        have pb := blk_below pb hbk5
        have lg1 := ho1.lt g1 rfl
        have HO1 := Hid.mk (owns_mono ho1 (Nat.zero_le _))
        have HR1 : Hid (WRows W ws L1) := Hid.mk hr1
        have sz1 := hbk5.size
        clear ho1 hr1
        (try go_wp2_with fail)
        refine hK.out _ _ ?_ (fun hHeld' => ?_)
        · (try dsimp only)
          exact ⟨(HBk5.cell zlt).trans q0, (HBk5.cell zlt).trans q1⟩
        clear hK K hHeld
        have hHeld := hHeld'
        clear hHeld'
        (try simp only [Act.put, List.setIfInBounds_toArray, List.set_cons_zero, List.set_cons_succ])
        refine tk 6 ?_
        have szE := HBk5.size
        have qs0 := blk_cell pb 0 (v := .slice none 0 0) rfl
        have qs1 := blk_cell pb 1 (v := .slice none 0 0) rfl
        have fs0 := blk_frozen pb 0
        have fs1 := blk_frozen pb 1
        have HBE : Below W.heap.size W ((wk5.setCell ⟨wk1.heap.size, 0, none⟩ (.slice (some ⟨g0, 0, none⟩) n0 d0)).setCell ⟨wk1.heap.size, 1, none⟩ (.slice (some ⟨g1, 0, none⟩) n1 d1)) := (HBk5.setCell (by show W.heap.size ≤ wk1.heap.size; omega) _).setCell (by show W.heap.size ≤ wk1.heap.size; omega) _
        refine wpAnyH_ready (rs := [8]) (by kernel_rfl) (by simp) ?_
        refine AllReadyH.cons (o := ?_) ?_ (fun K hK => ?_) AllReadyH.nil
        rotate_left
        · (simp only [List.getElem?_toArray, List.getElem?_cons_zero, List.getElem?_cons_succ]; rfl)
        go_simp
        skip
        (try go_wp2_with fail)
        refine hK.out _ _ ?_ (fun hHeld' => ?_)
        · (try dsimp only)
          exact ⟨(HBE.cell zlt).trans q0, (HBE.cell zlt).trans q1⟩
        clear hK K hHeld
        have hHeld := hHeld'
        clear hHeld'
        (try simp only [Act.put, List.setIfInBounds_toArray, List.set_cons_zero, List.set_cons_succ])
        refine wpAnyH_done (by kernel_rfl) ?_ _
        (try go_wp2_with fail)
        go_meet
        case rel =>
          refine ⟨wk1.heap.size, g0, d0, g1, d1, L0, L1, rfl, blk_set (blk_set pb 0 _) 1 _, ?_, HR1.out, by omega, by omega, by omega, ?_, HBE⟩
          · exact CW.begin H0.out H1.out hn0 hn1 (owns_off2 HO0.out (by omega) _ _ _ _) (owns_off2 HO1.out (by omega) _ _ _ _) HR0.out ⟨by omega, by rw [size_set, size_set]; omega⟩ ⟨by omega, by rw [size_set, size_set]; omega⟩ (by omega)
          · rw [size_set, size_set]; omega
    refine AllReadyH.cons (o := ?_) ?_ (fun K hK => ?_) AllReadyH.nil
    rotate_left
    · (simp only [List.getElem?_toArray, List.getElem?_cons_zero, List.getElem?_cons_succ]; rfl)
    · go_simp
      (try go_wp2_with fail)
      refine hK.out _ _ ?_ (fun hHeld' => ?_)
      · (try dsimp only)
        exact ⟨((Y0.alloc Y0.size _).cell zlt).trans q0, ((Y0.alloc Y0.size _).cell zlt).trans q1⟩
      clear hK K hHeld
      have hHeld := hHeld'
      clear hHeld'
      (try simp only [Act.put, List.setIfInBounds_toArray, List.set_cons_zero, List.set_cons_succ])
      obtain ⟨vk6, hv6⟩ : ∃ u, u = u0.alloc (.cells #[.slice none 0 0, .slice none 0 0] 32) := ⟨_, rfl⟩
      have hbk6 : Below u0.heap.size u0 vk6 := by rw [hv6]; exact (Below.refl _ _).alloc (Nat.le_refl _) _
      have HBk6 : Below W.heap.size W vk6 := Y0.trans (hbk6.mono Y0.size)
      have pb : vk6.heap[u0.heap.size]? = some (.cells #[.slice none 0 0, .slice none 0 0] 32 (0, 0)) := by rw [hv6]; exact heap_alloc_new _ _
      have szP : u0.heap.size < vk6.heap.size := by rw [hv6]; simp
      rw [← hv6]
      clear hv6
      refine wpAnyH_ready (rs := [2]) (by kernel_rfl) (by simp) ?_
      refine AllReadyH.cons (o := ?_) ?_ (fun K hK => ?_) AllReadyH.nil
      rotate_left
      · (simp only [List.getElem?_toArray, List.getElem?_cons_zero, List.getElem?_cons_succ]; rfl)
      go_simp
      go_at_call 65
      refine (KP.out vk6 HBk6).mono ?_
      rintro e wk7 ⟨g0, d0, L0, rfl, ho0, hr0, hbk7⟩
      have HBk7 : Below W.heap.size W wk7 := HBk6.trans (hbk7.mono HBk6.size)
      have pb := blk_below pb hbk7
      have lg0 := ho0.lt g0 rfl
      have HO0 := Hid.mk (owns_mono ho0 (Nat.zero_le _))
      have HR0 := Hid.mk hr0
      have sz0 := hbk7.size
      clear ho0 hr0
      (try go_wp2_with fail)
      refine hK.out _ _ ?_ (fun hHeld' => ?_)
      · (try dsimp only)
        exact ⟨(HBk7.cell zlt).trans q0, (HBk7.cell zlt).trans q1⟩
      clear hK K hHeld
      have hHeld := hHeld'
      clear hHeld'
      (try simp only [Act.put, List.setIfInBounds_toArray, List.set_cons_zero, List.set_cons_succ])
      refine wpAnyH_ready (rs := [5]) (by kernel_rfl) (by simp) ?_
      refine AllReadyH.cons (o := ?_) ?_ (fun K hK => ?_) AllReadyH.nil
      rotate_left
      · (simp only [List.getElem?_toArray, List.getElem?_cons_zero, List.getElem?_cons_succ]; rfl)
      go_simp
      go_at_call 66
      refine (KW.out wk7 HBk7).mono ?_
      rintro e wk8 ⟨g1, d1, L1, rfl, ho1, hr1, hbk8⟩
      have HBk8 : Below W.heap.size W wk8 := HBk7.trans (hbk8.mono HBk7.size)
      have pb := blk_below pb hbk8
      have HO0 := Hid.mk (owns_below HO0.out hbk8)
      have lg1 := ho1.lt g1 rfl
      have HO1 := Hid.mk (owns_mono ho1 (Nat.zero_le _))
      have HR1 : Hid (WRows W ws L1) := Hid.mk hr1
      have sz1 := hbk8.size
      clear ho1 hr1
      (try go_wp2_with fail)
      refine hK.out _ _ ?_ (fun hHeld' => ?_)
      · (try dsimp only)
        exact ⟨(HBk8.cell zlt).trans q0, (HBk8.cell zlt).trans q1⟩
      clear hK K hHeld
      have hHeld := hHeld'
      clear hHeld'
      (try simp only [Act.put, List.setIfInBounds_toArray, List.set_cons_zero, List.set_cons_succ])
      refine tk 6 ?_
      have szE := HBk8.size
      have qs0 := blk_cell pb 0 (v := .slice none 0 0) rfl
      have qs1 := blk_cell pb 1 (v := .slice none 0 0) rfl
      have fs0 := blk_frozen pb 0
      have fs1 := blk_frozen pb 1
      have HBE : Below W.heap.size W ((wk8.setCell ⟨u0.heap.size, 0, none⟩ (.slice (some ⟨g0, 0, none⟩) n0 d0)).setCell ⟨u0.heap.size, 1, none⟩ (.slice (some ⟨g1, 0, none⟩) n1 d1)) := (HBk8.setCell (by show W.heap.size ≤ u0.heap.size; omega) _).setCell (by show W.heap.size ≤ u0.heap.size; omega) _
      refine wpAnyH_ready (rs := [8]) (by kernel_rfl) (by simp) ?_
      refine AllReadyH.cons (o := ?_) ?_ (fun K hK => ?_) AllReadyH.nil
      rotate_left
      · (simp only [List.getElem?_toArray, List.getElem?_cons_zero, List.getElem?_cons_succ]; rfl)
      go_simp
      skip
      (try go_wp2_with fail)
      refine hK.out _ _ ?_ (fun hHeld' => ?_)
      · (try dsimp only)
        exact ⟨(HBE.cell zlt).trans q0, (HBE.cell zlt).trans q1⟩
      clear hK K hHeld
      have hHeld := hHeld'
      clear hHeld'
      (try simp only [Act.put, List.setIfInBounds_toArray, List.set_cons_zero, List.set_cons_succ])
      refine wpAnyH_done (by kernel_rfl) ?_ _
      (try go_wp2_with fail)
      go_meet
      case rel =>
        refine ⟨u0.heap.size, g0, d0, g1, d1, L0, L1, rfl, blk_set (blk_set pb 0 _) 1 _, ?_, HR1.out, by omega, by omega, by omega, ?_, HBE⟩
        · exact CW.begin H0.out H1.out hn0 hn1 (owns_off2 HO0.out (by omega) _ _ _ _) (owns_off2 HO1.out (by omega) _ _ _ _) HR0.out ⟨by omega, by rw [size_set, size_set]; omega⟩ ⟨by omega, by rw [size_set, size_set]; omega⟩ (by omega)
        · rw [size_set, size_set]; omega
  case rest =>
    obtain ⟨Pb, g0, d0, g1, d1, cells0, cells1, rfl, pb, hC, hR, p1, p2, p3, p4, bx⟩ := hcut
    obtain ⟨V, rfl⟩ : ∃ x, x = wc := ⟨_, rfl⟩
    have q1 := (bx.cell zlt).trans q1
    have HC := Hid.mk hC
    have HR := Hid.mk hR
    have HBX := Hid.mk bx
    have HB0 := Hid.mk B0
    clear KP KW q0 hC hR bx B0
    go_wp2_with fail
    go_loopw [16] (fun i wr => ∃ (k : Nat) (cells1 : List Value) (G : Nat → Nat → Prop), k ≤ n1 ∧ i = .int .i64 k ∧ wr.heap[Pb]? = some (.cells #[.slice (some ⟨g0, 0, none⟩) n0 d0, .slice (some ⟨g1, 0, none⟩) n1 d1] 32 (0, 0)) ∧ CW wr W.heap.size g0 n0 d0 g1 n1 d1 ps ws cells0 cells1 G k ∧
      (∀ i x, k ≤ i → ws[i]? = some x → WCells W x (sub cells1 (i * 3) 3)) ∧ Pb < wr.heap.size ∧ Below W.heap.size W wr) (fun i _ => n1 - (intOf i).toNat)
    case atStart => exact ⟨0, cells1, _, Nat.zero_le _, rfl, pb, HC.out, fun i x _ hx => HR.out i x hx, p4, HBX.out⟩
    case round =>
      clear HC HR HBX pb q1 p4 cells1
      obtain ⟨k, cells1, G, hk, rfl, pb, hC, hR, zp, hbw⟩ := hrel
      obtain ⟨wY, rfl⟩ : ∃ x, x = wr := ⟨_, rfl⟩
      by_cases hlt : k < n1
      · obtain ⟨b, off, rfl, hb, hc⟩ := RWire.row HA1.out (by have := H1.out; omega)
        obtain ⟨x, hx⟩ : ∃ x, ws[k]? = some x := ⟨_, List.getElem?_eq_getElem (by have := H1.out; omega)⟩
        obtain ⟨e0, m0, f0, e1, m1, f1, y0, y1, y2, ⟨u0, _, u1, u2⟩, ⟨v0, _, v1, v2⟩⟩ := hc k x hx
        have y0 := cell_later hbw y0
        have y1 := cell_later hbw y1
        have y2 := cell_later hbw y2
        have hm0 : m0 ≤ 1048576 := by rw [← u0]; exact (HSM.out k x hx).1
        have hm1 : m1 ≤ 1048576 := by rw [← v0]; exact (HSM.out k x hx).2
        obtain ⟨o, ho⟩ : ∃ o, o = x.2.2 := ⟨_, rfl⟩
        rw [← ho] at y2
        have HO := Hid.mk ho
        have hki : (k : Int) < (n1 : Int) := by omega
        obtain ⟨U, hU⟩ : ∃ U, U = wY.alloc (.cells #[.slice e0 m0 f0, .slice e1 m1 f1, .bool o] 76) := ⟨_, rfl⟩
        have hbU : Below wY.heap.size wY U := by rw [hU]; exact (Below.refl _ _).alloc (Nat.le_refl _) _
        have zU : wY.heap.size < U.heap.size := by rw [hU]; simp
        have ub : U.heap[wY.heap.size]? = some (.cells #[.slice e0 m0 f0, .slice e1 m1 f1, .bool o] 76 (0, 0)) := by rw [hU]; exact heap_alloc_new _ _
        have HX := Hid.mk hx
        have HU0 := Hid.mk u0
        have HV0 := Hid.mk v0
        have K0 : Hid (∀ V, Below W.heap.size W V → _) := Hid.mk (fun V hV => cloneI_any e0 m0 f0 x.1 V u0 (by omega) u2 (u1.below hV))
        have K1 : Hid (∀ V, Below W.heap.size W V → _) := Hid.mk (fun V hV => cloneI_any e1 m1 f1 x.2.1 V v0 (by omega) v2 (v1.below hV))
        have HCU := Hid.mk (hC.below hbU)
        have HLT := Hid.mk hC.lt
        have HRK := Hid.mk hR
        have HBU := Hid.mk (hbw.trans (hbU.mono hbw.size))
        have pbU := blk_below pb hbU
        have l0 := hC.l0
        have l1 := hC.l1
        clear ho u0 u1 u2 v0 v1 v2 hx hc hC hR hbU pb
        go_upto_region 5 with fail
        rw [← hU]
        clear hU y0 y1 y2
        have zpU : Pb < U.heap.size := by omega
        have t1 := blk_cell pbU 1 (v := .slice (some ⟨g1, 0, none⟩) n1 d1) rfl
        have t2 := blk_cell ub 0 (v := .slice e0 m0 f0) rfl
        have t3 := blk_cell ub 1 (v := .slice e1 m1 f1) rfl
        obtain ⟨xa, xc, xb, xd, hes, _⟩ := HRK.out k x (Nat.le_refl _) HX.out
        have HES := Hid.mk hes
        have HC1L : cells1.length = n1 * 3 := HCU.out.wi.outer.1
        clear hes
        refine wp_region_held_drew (S := fun w' => w'.cell? ⟨Pb, 1, none⟩ = some (.slice (some ⟨g1, 0, none⟩) n1 d1) ∧ w'.cell? ⟨wY.heap.size, 0, none⟩ = some (.slice e0 m0 f0) ∧ w'.cell? ⟨wY.heap.size, 1, none⟩ = some (.slice e1 m1 f1)) (by kernel_rfl) ?_ (fun hHeld => ?_)
        · (try dsimp only)
          exact ⟨t1, t2, t3⟩
        refine tk 0 ?_
        refine tk 1 ?_
        refine tk 2 ?_
        refine tk 3 ?_
        refine tk 4 ?_
        refine tr 5 (fun K hK => ?_)
        go_simp
        go_at_call 67
        refine (K0.out U.drew HBU.out.drew).mono ?_
        rintro e w1 ⟨r0, x0, rfl, o1, hb1⟩
        have h1 : Below U.heap.size U w1 := (Below.refl _ _).drew.trans hb1
        (try go_wp2_with fail)
        refine hK.out _ _ ?_ (fun hHeld' => ?_)
        · (try dsimp only)
          exact ⟨(h1.cell zpU).trans t1, (h1.cell zU).trans t2, (h1.cell zU).trans t3⟩
        clear hK K hHeld
        have hHeld := hHeld'
        clear hHeld'
        (try simp only [Act.put, List.setIfInBounds_toArray, List.set_cons_zero, List.set_cons_succ])
        have HO1 : Hid (w1.ownsRow U.heap.size 3 1 (.slice r0 m0 x0) m0 (x.1.map (.int .i64))) := Hid.mk o1
        have HC1 := Hid.mk (HCU.out.below h1)
        have HE1 := HC1.out.cellAt (j := 0) hlt (by omega)
        rw [HES.out] at HE1
        have HE1 : w1.cell? ⟨g1, k * 3, none⟩ = some (.slice xa x.1.length xc) := HE1
        have FE1 := HC1.out.frozen (k * 3)
        have u1 := (h1.cell zpU).trans t1
        have u2 := (h1.cell zU).trans t2
        have u3 := (h1.cell zU).trans t3
        have pb1 := blk_below pbU h1
        have HL0 := Hid.mk HO1.out.lt
        have zs1 := h1.size
        have H1B := Hid.mk (HBU.out.trans (h1.mono HBU.out.size))
        clear hb1 h1 o1
        refine tk 6 ?_
        refine tk 7 ?_
        refine wpAnyH_ready (rs := [8]) (by kernel_rfl) (by simp) ?_
        refine AllReadyH.cons (o := ?_) ?_ (fun K hK => ?_) AllReadyH.nil
        rotate_left
        · (simp only [List.getElem?_toArray, List.getElem?_cons_zero, List.getElem?_cons_succ]; rfl)
        go_simp
        skip
        (try go_wp2_with fail)
        refine hK.out _ _ ?_ (fun hHeld' => ?_)
        · (try dsimp only)
          exact ⟨(cell_far _ (by omega)).trans u1, (cell_far _ (by omega)).trans u2, (cell_far _ (by omega)).trans u3⟩
        clear hK K hHeld
        have hHeld := hHeld'
        clear hHeld'
        (try simp only [Act.put, List.setIfInBounds_toArray, List.set_cons_zero, List.set_cons_succ])
        refine wpAnyH_done (by kernel_rfl) ?_ _
        (try go_wp2_with fail)
        obtain ⟨w2, hw2⟩ : ∃ u, u = w1.setCell ⟨g1, k * 3, none⟩ (.slice r0 m0 x0) := ⟨_, rfl⟩
        have z2 : w2.heap.size = w1.heap.size := by rw [hw2]; exact size_set _ _ _
        have HC2 := Hid.mk (HC1.out.store (v := .slice r0 m0 x0) (vs := [.slice r0 m0 x0, .slice xb x.2.1.length xd, .bool x.2.2]) (j := 0) (Nat.le_refl _) hlt (by omega) (by rw [HES.out]; rfl))
        have HC2 : Hid (CW w2 W.heap.size g0 n0 d0 g1 n1 d1 ps ws cells0 (sets cells1 (k * 3) [.slice r0 m0 x0, .slice xb x.2.1.length xd, .bool x.2.2]) G k) := Hid.mk (by rw [hw2]; exact HC2.out)
        have HB2 : Hid (Below W.heap.size W w2) := Hid.mk (by rw [hw2]; exact H1B.out.setCell (by show W.heap.size ≤ g1; omega) _)
        have HO2 : Hid (w2.ownsRow U.heap.size 3 1 (.slice r0 m0 x0) m0 (x.1.map (.int .i64))) := Hid.mk (by rw [hw2]; exact owns_far HO1.out (by omega) _)
        have s1 : w2.cell? ⟨Pb, 1, none⟩ = some (.slice (some ⟨g1, 0, none⟩) n1 d1) := by rw [hw2]; exact (cell_far _ (by omega)).trans u1
        have s2 : w2.cell? ⟨wY.heap.size, 0, none⟩ = some (.slice e0 m0 f0) := by rw [hw2]; exact (cell_far _ (by omega)).trans u2
        have s3 : w2.cell? ⟨wY.heap.size, 1, none⟩ = some (.slice e1 m1 f1) := by rw [hw2]; exact (cell_far _ (by omega)).trans u3
        have HPB : Hid (w2.heap[Pb]? = some (.cells #[.slice (some ⟨g0, 0, none⟩) n0 d0, .slice (some ⟨g1, 0, none⟩) n1 d1] 32 (0, 0))) := Hid.mk (by rw [hw2]; exact blk_other pb1 (by show Pb ≠ g1; omega) _)
        (try rw [← hw2])
        have zpW : Pb < w2.heap.size := by omega
        have zyW : wY.heap.size < w2.heap.size := by omega
        clear hw2 HC1 H1B HO1 u1 u2 u3 hHeld pb1 HE1 FE1 K0 t1 t2 t3 HCU
        go_upto_region 6 with fail
        refine wp_region_held_drew (S := fun w' => w'.cell? ⟨Pb, 1, none⟩ = some (.slice (some ⟨g1, 0, none⟩) n1 d1) ∧ w'.cell? ⟨wY.heap.size, 0, none⟩ = some (.slice e0 m0 f0) ∧ w'.cell? ⟨wY.heap.size, 1, none⟩ = some (.slice e1 m1 f1)) (by kernel_rfl) ?_ (fun hHeld => ?_)
        · (try dsimp only)
          exact ⟨s1, s2, s3⟩
        refine tk 0 ?_
        refine tk 1 ?_
        refine tk 2 ?_
        refine tk 3 ?_
        refine tk 4 ?_
        refine tr 5 (fun K hK => ?_)
        go_simp
        go_at_call 67
        refine (K1.out w2.drew HB2.out.drew).mono ?_
        rintro e w3 ⟨r1, x1, rfl, o3, hb3⟩
        have h3 : Below w2.heap.size w2 w3 := (Below.refl _ _).drew.trans hb3
        (try go_wp2_with fail)
        refine hK.out _ _ ?_ (fun hHeld' => ?_)
        · (try dsimp only)
          exact ⟨(h3.cell zpW).trans s1, (h3.cell zyW).trans s2, (h3.cell zyW).trans s3⟩
        clear hK K hHeld
        have hHeld := hHeld'
        clear hHeld'
        (try simp only [Act.put, List.setIfInBounds_toArray, List.set_cons_zero, List.set_cons_succ])
        have HO3 : Hid (w3.ownsRow w2.heap.size 3 1 (.slice r1 m1 x1) m1 (x.2.1.map (.int .i64))) := Hid.mk o3
        have HO2 := Hid.mk (owns_below HO2.out h3)
        have HC3 := Hid.mk (HC2.out.below h3)
        have HE3 := HC3.out.cellAt (j := 1) hlt (by omega)
        rw [sub_sets3 HC1L hlt rfl] at HE3
        have HE3 : w3.cell? ⟨g1, k * 3 + 1, none⟩ = some (.slice xb x.2.1.length xd) := HE3
        have FE3 := HC3.out.frozen (k * 3 + 1)
        have v1 := (h3.cell zpW).trans s1
        have v2 := (h3.cell zyW).trans s2
        have v3 := (h3.cell zyW).trans s3
        have pb3 := blk_below HPB.out h3
        have zs3 := h3.size
        have HB3 := Hid.mk (HB2.out.trans (h3.mono HB2.out.size))
        clear hb3 h3 o3
        refine tk 6 ?_
        refine tk 7 ?_
        refine wpAnyH_ready (rs := [8]) (by kernel_rfl) (by simp) ?_
        refine AllReadyH.cons (o := ?_) ?_ (fun K hK => ?_) AllReadyH.nil
        rotate_left
        · (simp only [List.getElem?_toArray, List.getElem?_cons_zero, List.getElem?_cons_succ]; rfl)
        go_simp
        skip
        (try go_wp2_with fail)
        refine hK.out _ _ ?_ (fun hHeld' => ?_)
        · (try dsimp only)
          exact ⟨(cell_far _ (by omega)).trans v1, (cell_far _ (by omega)).trans v2, (cell_far _ (by omega)).trans v3⟩
        clear hK K hHeld
        have hHeld := hHeld'
        clear hHeld'
        (try simp only [Act.put, List.setIfInBounds_toArray, List.set_cons_zero, List.set_cons_succ])
        refine wpAnyH_done (by kernel_rfl) ?_ _
        (try go_wp2_with fail)
        have HC4 := HC3.out.store (k := k) (j := 1) (v := .slice r1 m1 x1) (vs := [.slice r0 m0 x0, .slice r1 m1 x1, .bool x.2.2]) (Nat.le_refl _) hlt (by omega) (by rw [sub_sets3 HC1L hlt rfl]; rfl)
        have hl2 : (sets cells1 (k * 3) [.slice r0 m0 x0, .slice xb x.2.1.length xd, .bool x.2.2]).length = n1 * 3 := HC3.out.wi.outer.1
        have hz4 : (w3.setCell ⟨g1, k * 3 + 1, none⟩ (.slice r1 m1 x1)).heap.size = w3.heap.size := size_set _ _ _
        have O0 : RInts.Own (w3.setCell ⟨g1, k * 3 + 1, none⟩ (.slice r1 m1 x1)) (From U.heap.size w1.heap.size) [.slice r0 m0 x0] x.1 := RInts.own_iff.2 ⟨HU0.out, by omega, owns_mono (owns_far HO2.out (by omega) _) (Nat.zero_le _), fun b hb => HL0.out b hb⟩
        have O1 : RInts.Own (w3.setCell ⟨g1, k * 3 + 1, none⟩ (.slice r1 m1 x1)) (From w2.heap.size w3.heap.size) [.slice r1 m1 x1] x.2.1 := RInts.own_iff.2 ⟨HV0.out, by omega, owns_mono (owns_far HO3.out (by omega) _) (Nat.zero_le _), fun b hb => HO3.out.lt b hb⟩
        have HC5 := HC4.close (H := fun b => From U.heap.size w1.heap.size b ∨ From w2.heap.size w3.heap.size b) HX.out (by
          rw [sub_sets3 hl2 hlt rfl]
          exact RWire.own_mk (x0 := x.1) (x1 := x.2.1) O0 O1 (fun _ h => .inl h) (fun _ h => .inr h) (fun b h h' => by have := h.2; have := h'.1; omega)) (fun b hb => by
          rw [hz4]
          have q : wY.heap.size < b ∧ b < w3.heap.size := by rcases hb with h | h <;> have := h.1 <;> have := h.2 <;> omega
          exact ⟨⟨by omega, q.2⟩, by omega, by omega, fun i hi hg => by have := HLT.out i b hi hg; omega⟩)
        refine ⟨⟨k + 1, _, _, by omega, by go_num, blk_other pb3 (by show Pb ≠ g1; omega) _, HC5, fun i y hi hy => ?_, by omega, HB3.out.setCell (by show W.heap.size ≤ g1; omega) _⟩, by simp [intOf]; omega⟩
        rw [sub_sets_far _ _ _ _ _ (mul_far (k := 3) (by omega)), sub_sets_far _ _ _ _ _ (mul_far (k := 3) (by omega))]
        exact HRK.out i y (by omega) hy
      · obtain rfl : k = n1 := by omega
        have hki : ¬ (k : Int) < (k : Int) := by omega
        have b1 := blk_below b1 hbw
        have y0 := blk_cell b1 0 (v := .slice none 0 0) rfl
        have y1 := blk_cell b1 1 (v := .slice none 0 0) rfl
        have z0 := blk_frozen b1 0
        have z1 := blk_frozen b1 1
        have p0 := blk_cell pb 0 (v := .slice (some ⟨g0, 0, none⟩) n0 d0) rfl
        have p1 := blk_cell pb 1 (v := .slice (some ⟨g1, 0, none⟩) k d1) rfl
        have HS := Hid.mk hC.all
        have HBE := Hid.mk (HB0.out.trans (hbw.mono HB0.out.size))
        clear hC hR pb
        go_wp2
        refine bodyPost_ret (v := .agg #[.slice (some ⟨g0, 0, none⟩) n0 d0, .slice (some ⟨g1, 0, none⟩) k d1]) (by simp [results, Try.results36, go_sem, y0, y1]) rfl ⟨g0, d0, g1, d1, rfl, ⟨cells0, cells1, G, ?_⟩, ?_⟩
        · exact (HS.out.frame (fun b hb _ => by
            have hb2 : W.heap.size ≤ b := hb
            exact (Below.heap_setCell _ _ _ _ (by show b ≠ w.heap.size + 1; omega)).trans (Below.heap_setCell _ _ _ _ (by show b ≠ w.heap.size + 1; omega))) (by rw [size_set, size_set]; exact Nat.le_refl _)).mono (fun b hb => by have hb2 : W.heap.size ≤ b := hb; show w.heap.size ≤ b; omega)
        · exact (HBE.out.setCell (by show w.heap.size ≤ w.heap.size + 1; omega) _).setCell (by show w.heap.size ≤ w.heap.size + 1; omega) _

end Go.Proofs.Ytnfdncofobkjhaa
