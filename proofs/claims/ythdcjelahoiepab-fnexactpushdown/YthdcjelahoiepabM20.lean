/- Contract of impl.viewOf: a view of parts, in new memory. -/
import Derived.Test.YthdcjelahoiepabM19
namespace Go.Proofs.Ythdcjelahoiepab
open Go.RowKit

/-- A view that a call hands back and owns. -/
def ViewIs (e : Ending) (w' : World) (lo : Nat) (v : ViewD) : Prop := ∃ sa sc pa pc, e = .returned (.agg #[.slice sa v.1.length sc, .slice pa v.2.length pc]) ∧ RView.Own w' (From lo w'.heap.size) [.slice sa v.1.length sc, .slice pa v.2.length pc] v

set_option maxRecDepth 100000 in
set_option maxHeartbeats 16000000 in
theorem viewOf_any (sa : Option Addr) (sn sc : Nat) (ss : List Int) (gp n pd : Nat) (vs : List Value) (xs : List PartD) (w0 w : World) (hsz : ss.length = sn) (hsn : sn ≤ 1048576) (hsa : At w sa ss) (hnil : sa = none → sc = 0) (hx : xs.length = n) (hv : vs.length = n) (hn : n ≤ 1000)
    (hp : ∀ (k : Nat) (v : Value), vs[k]? = some v → w.cell? ⟨gp, k, none⟩ = some v) (hb0 : Below w0.heap.size w0 w) (ht : ∀ (k : Nat) (v : Value) (x : PartD), vs[k]? = some v → xs[k]? = some x → Tells5 v w0 x) :
    Calls Try.prog 25 #[.slice sa sn sc, .slice (some ⟨gp, 0, none⟩) n pd] w fun e w' => ViewIs e w' w.heap.size (ss, xs) ∧ Below w.heap.size w w' := by
  obtain ⟨i0, hi, hz0, hz1, hz2⟩ := info_parts Try.infoPart
  obtain ⟨j0, hj, hy0, hy1, hy2⟩ := info_parts Try.infoInt
  obtain ⟨U, hU⟩ : ∃ U, U = w.alloc (.cells #[.slice none 0 0, .slice none 0 0] 31) := ⟨_, rfl⟩
  have BU : Below w.heap.size w U := by rw [hU]; exact (Below.refl _ _).alloc (Nat.le_refl _) _
  have bU : U.heap[w.heap.size]? = some (.cells #[.slice none 0 0, .slice none 0 0] 31 (0, 0)) := by rw [hU]; exact heap_alloc_new w _
  have zU : w.heap.size < U.heap.size := by rw [hU]; simp
  have HSA := Hid.mk hsa
  have HSZ := Hid.mk hsz
  have HNIL := Hid.mk hnil
  have HXL := Hid.mk hx
  have HVL := Hid.mk hv
  have HP := Hid.mk hp
  have HB0 := Hid.mk hb0
  have HT := Hid.mk ht
  clear hsa hsz hnil hx hv hp hb0 ht
  have HSU : Hid (At (w.alloc (.cells #[.slice none 0 0, .slice none 0 0] 31)) sa ss) := by rw [← hU]; exact HSA.out.below BU
  go_enter Try.func25, Try.ntmps25
  go_wp2_with (at_builtin; refine wpList_append_all rfl (.const (.slice none 0 0)) (.tmp 8) 22 rfl (w.heap.size + 1) 3 j0 (.int .i64 0) 8 Try.underlying22 hj hy0 hy1 hy2 rfl (.slice none 0 0) 0 [] rfl (World.ownsRow_nil _ _ _ _) sa sn sc ss rfl HSZ.out HSU.out HNIL.out (by unfold maxLen; omega) (by omega) (by simp) ?_; intro r0 d0 w1 ho1 hg1)
  rw [← hU] at hg1
  simp only [Nat.zero_add, List.nil_append] at ho1 ⊢
  have hb1 : Below U.heap.size U w1 := (Below.refl _ _).grown hg1 (Nat.le_refl _) (fun k hk => by cases hk)
  have b1 := blk_below bU hb1
  have B1 : Below w.heap.size w w1 := BU.trans (hb1.mono BU.size)
  have z1 : w.heap.size < w1.heap.size := by have := hb1.size; omega
  have ho0 : w1.ownsRow 0 3 1 (.slice r0 sn d0) sn (ss.map (.int .i64)) := owns_mono ho1 (Nat.zero_le _)
  have O1 : Hid (RInts.Own w1 (From (w.heap.size + 1) w1.heap.size) [.slice r0 sn d0] ss) := RInts.own_iff.2 ⟨HSZ.out, by omega, ho0, fun b hb => ho1.lt b hb⟩
  clear ho1 hg1 hb1 bU BU hU ho0 zU
  obtain ⟨V, hV⟩ : ∃ V, V = w1.alloc (.cells #[.slice r0 sn d0, .slice none 0 0] 31) := ⟨_, rfl⟩
  have bV : Below w1.heap.size w1 V := by rw [hV]; exact (Below.refl _ _).alloc (Nat.le_refl _) _
  have v2 : V.heap[w1.heap.size]? = some (.cells #[.slice r0 sn d0, .slice none 0 0] 31 (0, 0)) := by rw [hV]; exact heap_alloc_new w1 _
  have v1 := blk_below b1 bV
  have zV : w1.heap.size < V.heap.size := (Array.getElem?_eq_some_iff.1 v2).1
  have O2 : Hid (RInts.Own V (From (w.heap.size + 1) w1.heap.size) [.slice r0 sn d0] ss) := RInts.ownBelow O1.out bV
  have HBV : Hid (Below w.heap.size w V) := B1.trans (bV.mono (by omega))
  go_upto_region 3 with fail
  rw [← hV]
  clear hV O1 b1 B1 bV
  obtain ⟨q, hq⟩ : ∃ q, q = w1.heap.size := ⟨_, rfl⟩
  rw [← hq] at v2 O2 z1 zV ⊢
  clear hq
  go_loopw [13] (fun i wr => ∃ (k : Nat) (r : Option Addr) (d : Nat) (cells : List Value) (G : Nat → Nat → Prop), k ≤ n ∧ i = .int .i64 k ∧ wr.heap[q]? = some (.cells #[.slice r0 sn d0, .slice r k d] 31 (0, 0)) ∧ wr.heap[w.heap.size]? = some (.cells #[.slice none 0 0, .slice none 0 0] 31 (0, 0)) ∧
    Laid RPart wr (From (q + 1) wr.heap.size) 45 r k d (xs.take k) cells G k ∧ wr.ownsRow (q + 1) 45 6 (.slice r k d) k cells ∧ RInts.Own wr (From (w.heap.size + 1) q) [.slice r0 sn d0] ss ∧ q < wr.heap.size ∧ Below w.heap.size w wr) (fun i _ => n - (intOf i).toNat)
  case atStart => exact ⟨0, none, 0, [], _, Nat.zero_le _, rfl, v2, v1, Laid.none RPart V _ _, World.ownsRow_nil _ _ _ _, O2.out, zV, HBV.out⟩
  case round =>
    clear v2 v1 zV O2 HBV
    obtain ⟨k, r, d, cells, G, hk, rfl, b2, b1, hl, how, hoi, zr, hbw⟩ := hrel
    by_cases hlt : k < n
    · obtain ⟨x, hx⟩ : ∃ x, xs[k]? = some x := ⟨_, List.getElem?_eq_getElem (by rw [HXL.out]; exact hlt)⟩
      obtain ⟨v, hv⟩ : ∃ v, vs[k]? = some v := ⟨_, List.getElem?_eq_getElem (by rw [HVL.out]; exact hlt)⟩
      have hcx := cell_later hbw (HP.out k v hv)
      obtain ⟨T, rv, fn, rfl, hm, hent, hcall⟩ := HT.out k v x hv hx
      have HL := Hid.mk hl
      have HW := Hid.mk how
      have HOI := Hid.mk hoi
      have HTK : Hid (xs.take (k + 1) = xs.take k ++ [x]) := by
        show _ = _
        have hk' := (List.getElem?_eq_some_iff.1 hx).1
        rw [List.take_succ_eq_append_getElem hk', (List.getElem?_eq_some_iff.1 hx).2]
      have c5 := blk_cell b2 1 (v := .slice r k d) rfl
      have hki : (k : Int) < (n : Int) := by omega
      have HB := Hid.mk hbw
      have HCALL : Hid (Calls Try.prog fn #[rv] wr.drew fun e w' => PartRet e w' wr.heap.size x ∧ Below wr.heap.size wr.drew w') := hcall wr.drew (HB0.out.trans ((hbw.drew).mono HB0.out.size))
      clear hl how hoi hx hv hbw hcall
      go_upto_region 5 with fail
      refine wp_region_held_drew (S := fun w' => True) (by kernel_rfl) ?_ (fun hHeld => ?_)
      · (try dsimp only)
        all_goals trivial
      refine wpAnyH_take (i := 0) (oi := ?_) (v := ?_) ?_ (by kernel_rfl) (by kernel_rfl) (by kernel_rfl) ?_ (Or.inl ⟨?_, ?_⟩) (by assumption) ?_
      rotate_left 2
      · (simp only [List.getElem?_toArray, List.getElem?_cons_zero]; rfl)
      · exact fun _ _ _ h => h
      · rfl
      · (intro wS hSw; (try dsimp only at hSw); go_simp; (try with_reducible rfl))
      (try simp only [Act.put, List.setIfInBounds_toArray, List.set_cons_zero, List.set_cons_succ])
      refine wpAnyH_take (i := 2) (oi := ?_) (v := ?_) ?_ (by kernel_rfl) (by kernel_rfl) (by kernel_rfl) ?_ (Or.inl ⟨?_, ?_⟩) (by assumption) ?_
      rotate_left 2
      · (simp only [List.getElem?_toArray, List.getElem?_cons_zero, List.getElem?_cons_succ]; rfl)
      · exact fun _ _ _ h => h
      · rfl
      · (intro wS hSw; (try dsimp only at hSw); go_simp; (try with_reducible rfl))
      (try simp only [Act.put, List.setIfInBounds_toArray, List.set_cons_zero, List.set_cons_succ])
      refine wpAnyH_ready (rs := [1, 3]) (by kernel_rfl) (by simp) ?_
      refine AllReadyH.cons (o := ?_) ?_ (fun K hK => ?_) ?_
      rotate_left
      · (simp only [List.getElem?_toArray, List.getElem?_cons_zero, List.getElem?_cons_succ]; rfl)
      · go_simp
        (try go_wp2_with fail)
        refine hK.out _ _ ?_ (fun hHeld' => ?_)
        · (try dsimp only)
          all_goals trivial
        clear hK K hHeld
        have hHeld := hHeld'
        clear hHeld'
        (try simp only [Act.put, List.setIfInBounds_toArray, List.set_cons_zero, List.set_cons_succ])
        refine wpAnyH_ready (rs := [3]) (by kernel_rfl) (by simp) ?_
        refine AllReadyH.cons (o := ?_) ?_ (fun K hK => ?_) AllReadyH.nil
        rotate_left
        · (simp only [List.getElem?_toArray, List.getElem?_cons_zero, List.getElem?_cons_succ]; rfl)
        go_simp
        refine HCALL.out.mono ?_
        rintro e w2 ⟨⟨ta, tc, ca, cc, pa, pc, rfl, ho2⟩, hd2⟩
        have hb2 : Below wr.heap.size wr w2 := (Below.refl _ _).drew.trans hd2
        have z2 := hb2.size
        have d5 := cell_later hb2 c5
        clear hd2
        (try go_wp2_with fail)
        refine hK.out _ _ ?_ (fun hHeld' => ?_)
        · (try dsimp only)
          all_goals trivial
        clear hK K hHeld
        have hHeld := hHeld'
        clear hHeld'
        (try simp only [Act.put, List.setIfInBounds_toArray, List.set_cons_zero, List.set_cons_succ])
        refine wpAnyH_ready (rs := [4]) (by kernel_rfl) (by simp) ?_
        refine AllReadyH.cons (o := ?_) ?_ (fun K hK => ?_) AllReadyH.nil
        rotate_left
        · (simp only [List.getElem?_toArray, List.getElem?_cons_zero, List.getElem?_cons_succ]; rfl)
        go_simp
        skip
        (try go_wp2_with fail)
        refine hK.out _ _ ?_ (fun hHeld' => ?_)
        · (try dsimp only)
          all_goals trivial
        clear hK K hHeld
        have hHeld := hHeld'
        clear hHeld'
        (try simp only [Act.put, List.setIfInBounds_toArray, List.set_cons_zero, List.set_cons_succ])
        refine wpAnyH_ready (rs := [5]) (by kernel_rfl) (by simp) ?_
        refine AllReadyH.cons (o := ?_) ?_ (fun K hK => ?_) AllReadyH.nil
        rotate_left
        · (simp only [List.getElem?_toArray, List.getElem?_cons_zero, List.getElem?_cons_succ]; rfl)
        refine step_append_vals rfl (.tmp 18) (.tmp 21) 29 rfl (q + 1) 45 i0 (.agg #[.int .i64 0, .int .i64 0, .int .i64 0, .slice none 0 0, .slice none 0 0, .slice none 0 0]) 6 96 Try.underlying29 hi hz0 hz1 hz2 rfl (by decide) (.slice r k d) k cells (by simp [Act.eval]) ((owns_below HW.out hb2).alloc _) (some ⟨w2.heap.size, 0, none⟩) 1 1 (cellsP x.K x.A x.B ta x.ts.length tc ca x.cs.length cc pa x.ps.length pc) (by simp [Act.eval]) rfl (fun ad he => by cases he; exact news_at w2 (cellsP x.K x.A x.B ta x.ts.length tc ca x.cs.length cc pa x.ps.length pc).toArray 45) (by intro u hu; simp at hu; rcases hu with rfl | rfl | rfl | rfl | rfl | rfl <;> rfl) (fun h => by cases h) (by unfold maxLen; omega) (by omega) (by simp; omega) ?_
        intro r4 d4 w4 ho4 hg4 ht4
        have k2 := (hg4.block q (by simp; omega) (fun e => by have h9 := (HW.out.lt _ e.symm).1; omega)).trans (blk_alloc (blk_below b2 hb2) _)
        have k1 := (hg4.block w.heap.size (by simp; omega) (fun e => by have h9 := (HW.out.lt _ e.symm).1; omega)).trans (blk_alloc (blk_below b1 hb2) _)
        have e5 := blk_cell k2 1 (v := .slice r k d) rfl
        have f5 := blk_frozen k2 1
        refine hK.out _ _ ?_ (fun hHeld' => ?_)
        · (try dsimp only)
          all_goals trivial
        clear hK K hHeld
        have hHeld := hHeld'
        clear hHeld'
        (try simp only [Act.put, List.setIfInBounds_toArray, List.set_cons_zero, List.set_cons_succ])
        refine wpAnyH_take (i := 6) (oi := ?_) (v := ?_) ?_ (by kernel_rfl) (by kernel_rfl) (by kernel_rfl) ?_ (Or.inl ⟨?_, ?_⟩) (by assumption) ?_
        rotate_left 2
        · (simp only [List.getElem?_toArray, List.getElem?_cons_zero, List.getElem?_cons_succ]; rfl)
        · exact fun _ _ _ h => h
        · rfl
        · (intro wS hSw; (try dsimp only at hSw); go_simp; (try with_reducible rfl))
        (try simp only [Act.put, List.setIfInBounds_toArray, List.set_cons_zero, List.set_cons_succ])
        refine wpAnyH_ready (rs := [7]) (by kernel_rfl) (by simp) ?_
        refine AllReadyH.cons (o := ?_) ?_ (fun K hK => ?_) AllReadyH.nil
        rotate_left
        · (simp only [List.getElem?_toArray, List.getElem?_cons_zero, List.getElem?_cons_succ]; rfl)
        go_simp
        skip
        (try go_wp2_with fail)
        refine hK.out _ _ ?_ (fun hHeld' => ?_)
        · (try dsimp only)
          all_goals trivial
        clear hK K hHeld
        have hHeld := hHeld'
        clear hHeld'
        (try simp only [Act.put, List.setIfInBounds_toArray, List.set_cons_zero, List.set_cons_succ])
        refine wpAnyH_done (by kernel_rfl) ?_ _
        have z4 : w2.heap.size < w4.heap.size := by have h9 := hg4.size; simp at h9; omega
        have BG : ∀ b, b < w2.heap.size → (Value.slice r k d).ownBlock ≠ some b → w4.heap[b]? = w2.heap[b]? := fun b hb hn => (hg4.block b (by simp; omega) (fun e => hn e.symm)).trans (Below.heap_alloc w2 _ b hb)
        have hpush := HL.out.push (F' := From (q + 1) w4.heap.size) (fun b h => h.2) hb2 ho2 (fun b h => h) BG (owns_mono ho4 (Nat.zero_le _)) (by
          rcases ht4 with h9 | h9
          · exact .inl h9
          · refine .inr (fun b e => ?_)
            rw [h9] at e
            simp at e
            omega) (by omega) (fun b h => ⟨h.1, by have := h.2; omega⟩) (fun b h => ⟨by have := h.1; omega, by have := h.2; omega⟩) (fun b h => ho4.lt b h)
        obtain ⟨X, hX⟩ : ∃ u, u = w4.setCell ⟨q, 1, none⟩ (.slice r4 (k + 1) d4) := ⟨_, rfl⟩
        have zX : X.heap.size = w4.heap.size := by rw [hX]; simp [World.setCell]
        have S : Off (fun b => b = q) w4 X := by rw [hX]; exact Off.set (F := fun b => b = q) rfl _
        obtain ⟨G', HL'⟩ : ∃ G', Hid (Laid RPart X (From (q + 1) X.heap.size) 45 r4 (k + 1) d4 (xs.take (k + 1)) (cells ++ cellsP x.K x.A x.B ta x.ts.length tc ca x.cs.length cc pa x.ps.length pc) G' (k + 1)) := by
          rw [HTK.out, zX]
          exact ⟨_, Hid.mk (hpush.frame (fun b h1 h2 => S.block b h2 (fun e => by have := h1.1; omega)))⟩
        have HW' : Hid (X.ownsRow (q + 1) 45 6 (.slice r4 (k + 1) d4) (k + 1) (cells ++ cellsP x.K x.A x.B ta x.ts.length tc ca x.cs.length cc pa x.ps.length pc)) := by rw [hX]; exact ownsRow_setCell_below ho4 (by simp) _
        have K2 : Hid (X.heap[q]? = some (.cells #[.slice r0 sn d0, .slice r4 (k + 1) d4] 31 (0, 0))) := by rw [hX]; exact blk_set k2 1 _
        have K1 : Hid (X.heap[w.heap.size]? = some (.cells #[.slice none 0 0, .slice none 0 0] 31 (0, 0))) := by rw [hX]; exact blk_other k1 (by simp; omega) _
        have HOI' : Hid (RInts.Own X (From (w.heap.size + 1) q) [.slice r0 sn d0] ss) := RInts.frame HOI.out (fun b h1 h2 => by
          have h3 := h1.2
          rw [S.block b (by omega) (fun e => by omega), BG b (by omega) (fun e => by have := (HW.out.lt b e).1; omega)]
          exact hb2.block b h2)
        have HB' : Hid (Below w.heap.size w X) := by
          rw [hX]
          have h9 := HB.out.size
          exact ((HB.out.trans (hb2.mono h9)).trans (show Below w.heap.size w2 w4 from ⟨hg4.os, hg4.tape, hg4.output, by omega, fun b hb => BG b (by omega) (fun e => by have := (HW.out.lt b e).1; omega)⟩)).setCell (by simp; omega) _
        have HZX : Hid (q < X.heap.size) := by show _ < _; rw [zX]; omega
        have HX := Hid.mk hX
        clear zX S hX hpush BG ho4 hg4 ht4 k2 k1 e5 f5 ho2 hb2 d5 hHeld
        go_wp2
        go_roundw
        case rel =>
          have hX := HX.out
          have h1 := K2.out
          have h2 := K1.out
          have h3 := HL'.out
          have h4 := HW'.out
          have h5 := HB'.out
          have h6 := HZX.out
          have h7 := HOI'.out
          rw [hX] at h1 h2 h3 h4 h5 h6 h7
          exact ⟨k + 1, r4, d4, _, _, by omega, by go_num, h1, h2, h3, h4, h7, h6, h5⟩
        case measure => simp [intOf]; omega
      refine AllReadyH.cons (o := ?_) ?_ (fun K hK => ?_) AllReadyH.nil
      rotate_left
      · (simp only [List.getElem?_toArray, List.getElem?_cons_zero, List.getElem?_cons_succ]; rfl)
      · go_simp
        refine HCALL.out.mono ?_
        rintro e w2 ⟨⟨ta, tc, ca, cc, pa, pc, rfl, ho2⟩, hd2⟩
        have hb2 : Below wr.heap.size wr w2 := (Below.refl _ _).drew.trans hd2
        have z2 := hb2.size
        have d5 := cell_later hb2 c5
        clear hd2
        (try go_wp2_with fail)
        refine hK.out _ _ ?_ (fun hHeld' => ?_)
        · (try dsimp only)
          all_goals trivial
        clear hK K hHeld
        have hHeld := hHeld'
        clear hHeld'
        (try simp only [Act.put, List.setIfInBounds_toArray, List.set_cons_zero, List.set_cons_succ])
        refine wpAnyH_ready (rs := [1, 4]) (by kernel_rfl) (by simp) ?_
        refine AllReadyH.cons (o := ?_) ?_ (fun K hK => ?_) ?_
        rotate_left
        · (simp only [List.getElem?_toArray, List.getElem?_cons_zero, List.getElem?_cons_succ]; rfl)
        · go_simp
          (try go_wp2_with fail)
          refine hK.out _ _ ?_ (fun hHeld' => ?_)
          · (try dsimp only)
            all_goals trivial
          clear hK K hHeld
          have hHeld := hHeld'
          clear hHeld'
          (try simp only [Act.put, List.setIfInBounds_toArray, List.set_cons_zero, List.set_cons_succ])
          refine wpAnyH_ready (rs := [4]) (by kernel_rfl) (by simp) ?_
          refine AllReadyH.cons (o := ?_) ?_ (fun K hK => ?_) AllReadyH.nil
          rotate_left
          · (simp only [List.getElem?_toArray, List.getElem?_cons_zero, List.getElem?_cons_succ]; rfl)
          go_simp
          skip
          (try go_wp2_with fail)
          refine hK.out _ _ ?_ (fun hHeld' => ?_)
          · (try dsimp only)
            all_goals trivial
          clear hK K hHeld
          have hHeld := hHeld'
          clear hHeld'
          (try simp only [Act.put, List.setIfInBounds_toArray, List.set_cons_zero, List.set_cons_succ])
          refine wpAnyH_ready (rs := [5]) (by kernel_rfl) (by simp) ?_
          refine AllReadyH.cons (o := ?_) ?_ (fun K hK => ?_) AllReadyH.nil
          rotate_left
          · (simp only [List.getElem?_toArray, List.getElem?_cons_zero, List.getElem?_cons_succ]; rfl)
          refine step_append_vals rfl (.tmp 18) (.tmp 21) 29 rfl (q + 1) 45 i0 (.agg #[.int .i64 0, .int .i64 0, .int .i64 0, .slice none 0 0, .slice none 0 0, .slice none 0 0]) 6 96 Try.underlying29 hi hz0 hz1 hz2 rfl (by decide) (.slice r k d) k cells (by simp [Act.eval]) ((owns_below HW.out hb2).alloc _) (some ⟨w2.heap.size, 0, none⟩) 1 1 (cellsP x.K x.A x.B ta x.ts.length tc ca x.cs.length cc pa x.ps.length pc) (by simp [Act.eval]) rfl (fun ad he => by cases he; exact news_at w2 (cellsP x.K x.A x.B ta x.ts.length tc ca x.cs.length cc pa x.ps.length pc).toArray 45) (by intro u hu; simp at hu; rcases hu with rfl | rfl | rfl | rfl | rfl | rfl <;> rfl) (fun h => by cases h) (by unfold maxLen; omega) (by omega) (by simp; omega) ?_
          intro r4 d4 w4 ho4 hg4 ht4
          have k2 := (hg4.block q (by simp; omega) (fun e => by have h9 := (HW.out.lt _ e.symm).1; omega)).trans (blk_alloc (blk_below b2 hb2) _)
          have k1 := (hg4.block w.heap.size (by simp; omega) (fun e => by have h9 := (HW.out.lt _ e.symm).1; omega)).trans (blk_alloc (blk_below b1 hb2) _)
          have e5 := blk_cell k2 1 (v := .slice r k d) rfl
          have f5 := blk_frozen k2 1
          refine hK.out _ _ ?_ (fun hHeld' => ?_)
          · (try dsimp only)
            all_goals trivial
          clear hK K hHeld
          have hHeld := hHeld'
          clear hHeld'
          (try simp only [Act.put, List.setIfInBounds_toArray, List.set_cons_zero, List.set_cons_succ])
          refine wpAnyH_take (i := 6) (oi := ?_) (v := ?_) ?_ (by kernel_rfl) (by kernel_rfl) (by kernel_rfl) ?_ (Or.inl ⟨?_, ?_⟩) (by assumption) ?_
          rotate_left 2
          · (simp only [List.getElem?_toArray, List.getElem?_cons_zero, List.getElem?_cons_succ]; rfl)
          · exact fun _ _ _ h => h
          · rfl
          · (intro wS hSw; (try dsimp only at hSw); go_simp; (try with_reducible rfl))
          (try simp only [Act.put, List.setIfInBounds_toArray, List.set_cons_zero, List.set_cons_succ])
          refine wpAnyH_ready (rs := [7]) (by kernel_rfl) (by simp) ?_
          refine AllReadyH.cons (o := ?_) ?_ (fun K hK => ?_) AllReadyH.nil
          rotate_left
          · (simp only [List.getElem?_toArray, List.getElem?_cons_zero, List.getElem?_cons_succ]; rfl)
          go_simp
          skip
          (try go_wp2_with fail)
          refine hK.out _ _ ?_ (fun hHeld' => ?_)
          · (try dsimp only)
            all_goals trivial
          clear hK K hHeld
          have hHeld := hHeld'
          clear hHeld'
          (try simp only [Act.put, List.setIfInBounds_toArray, List.set_cons_zero, List.set_cons_succ])
          refine wpAnyH_done (by kernel_rfl) ?_ _
          have z4 : w2.heap.size < w4.heap.size := by have h9 := hg4.size; simp at h9; omega
          have BG : ∀ b, b < w2.heap.size → (Value.slice r k d).ownBlock ≠ some b → w4.heap[b]? = w2.heap[b]? := fun b hb hn => (hg4.block b (by simp; omega) (fun e => hn e.symm)).trans (Below.heap_alloc w2 _ b hb)
          have hpush := HL.out.push (F' := From (q + 1) w4.heap.size) (fun b h => h.2) hb2 ho2 (fun b h => h) BG (owns_mono ho4 (Nat.zero_le _)) (by
            rcases ht4 with h9 | h9
            · exact .inl h9
            · refine .inr (fun b e => ?_)
              rw [h9] at e
              simp at e
              omega) (by omega) (fun b h => ⟨h.1, by have := h.2; omega⟩) (fun b h => ⟨by have := h.1; omega, by have := h.2; omega⟩) (fun b h => ho4.lt b h)
          obtain ⟨X, hX⟩ : ∃ u, u = w4.setCell ⟨q, 1, none⟩ (.slice r4 (k + 1) d4) := ⟨_, rfl⟩
          have zX : X.heap.size = w4.heap.size := by rw [hX]; simp [World.setCell]
          have S : Off (fun b => b = q) w4 X := by rw [hX]; exact Off.set (F := fun b => b = q) rfl _
          obtain ⟨G', HL'⟩ : ∃ G', Hid (Laid RPart X (From (q + 1) X.heap.size) 45 r4 (k + 1) d4 (xs.take (k + 1)) (cells ++ cellsP x.K x.A x.B ta x.ts.length tc ca x.cs.length cc pa x.ps.length pc) G' (k + 1)) := by
            rw [HTK.out, zX]
            exact ⟨_, Hid.mk (hpush.frame (fun b h1 h2 => S.block b h2 (fun e => by have := h1.1; omega)))⟩
          have HW' : Hid (X.ownsRow (q + 1) 45 6 (.slice r4 (k + 1) d4) (k + 1) (cells ++ cellsP x.K x.A x.B ta x.ts.length tc ca x.cs.length cc pa x.ps.length pc)) := by rw [hX]; exact ownsRow_setCell_below ho4 (by simp) _
          have K2 : Hid (X.heap[q]? = some (.cells #[.slice r0 sn d0, .slice r4 (k + 1) d4] 31 (0, 0))) := by rw [hX]; exact blk_set k2 1 _
          have K1 : Hid (X.heap[w.heap.size]? = some (.cells #[.slice none 0 0, .slice none 0 0] 31 (0, 0))) := by rw [hX]; exact blk_other k1 (by simp; omega) _
          have HOI' : Hid (RInts.Own X (From (w.heap.size + 1) q) [.slice r0 sn d0] ss) := RInts.frame HOI.out (fun b h1 h2 => by
            have h3 := h1.2
            rw [S.block b (by omega) (fun e => by omega), BG b (by omega) (fun e => by have := (HW.out.lt b e).1; omega)]
            exact hb2.block b h2)
          have HB' : Hid (Below w.heap.size w X) := by
            rw [hX]
            have h9 := HB.out.size
            exact ((HB.out.trans (hb2.mono h9)).trans (show Below w.heap.size w2 w4 from ⟨hg4.os, hg4.tape, hg4.output, by omega, fun b hb => BG b (by omega) (fun e => by have := (HW.out.lt b e).1; omega)⟩)).setCell (by simp; omega) _
          have HZX : Hid (q < X.heap.size) := by show _ < _; rw [zX]; omega
          have HX := Hid.mk hX
          clear zX S hX hpush BG ho4 hg4 ht4 k2 k1 e5 f5 ho2 hb2 d5 hHeld
          go_wp2
          go_roundw
          case rel =>
            have hX := HX.out
            have h1 := K2.out
            have h2 := K1.out
            have h3 := HL'.out
            have h4 := HW'.out
            have h5 := HB'.out
            have h6 := HZX.out
            have h7 := HOI'.out
            rw [hX] at h1 h2 h3 h4 h5 h6 h7
            exact ⟨k + 1, r4, d4, _, _, by omega, by go_num, h1, h2, h3, h4, h7, h6, h5⟩
          case measure => simp [intOf]; omega
        refine AllReadyH.cons (o := ?_) ?_ (fun K hK => ?_) AllReadyH.nil
        rotate_left
        · (simp only [List.getElem?_toArray, List.getElem?_cons_zero, List.getElem?_cons_succ]; rfl)
        · go_simp
          (try go_wp2_with fail)
          refine hK.out _ _ ?_ (fun hHeld' => ?_)
          · (try dsimp only)
            all_goals trivial
          clear hK K hHeld
          have hHeld := hHeld'
          clear hHeld'
          (try simp only [Act.put, List.setIfInBounds_toArray, List.set_cons_zero, List.set_cons_succ])
          have u2 := cell_later ((Below.refl _ _).alloc (Nat.le_refl _) (.cells (cellsP x.K x.A x.B ta x.ts.length tc ca x.cs.length cc pa x.ps.length pc).toArray 45)) d5
          refine wpAnyH_ready (rs := [1]) (by kernel_rfl) (by simp) ?_
          refine AllReadyH.cons (o := ?_) ?_ (fun K hK => ?_) AllReadyH.nil
          rotate_left
          · (simp only [List.getElem?_toArray, List.getElem?_cons_zero, List.getElem?_cons_succ]; rfl)
          go_simp
          skip
          (try go_wp2_with fail)
          refine hK.out _ _ ?_ (fun hHeld' => ?_)
          · (try dsimp only)
            all_goals trivial
          clear hK K hHeld
          have hHeld := hHeld'
          clear hHeld'
          (try simp only [Act.put, List.setIfInBounds_toArray, List.set_cons_zero, List.set_cons_succ])
          clear u2
          refine wpAnyH_ready (rs := [5]) (by kernel_rfl) (by simp) ?_
          refine AllReadyH.cons (o := ?_) ?_ (fun K hK => ?_) AllReadyH.nil
          rotate_left
          · (simp only [List.getElem?_toArray, List.getElem?_cons_zero, List.getElem?_cons_succ]; rfl)
          refine step_append_vals rfl (.tmp 18) (.tmp 21) 29 rfl (q + 1) 45 i0 (.agg #[.int .i64 0, .int .i64 0, .int .i64 0, .slice none 0 0, .slice none 0 0, .slice none 0 0]) 6 96 Try.underlying29 hi hz0 hz1 hz2 rfl (by decide) (.slice r k d) k cells (by simp [Act.eval]) ((owns_below HW.out hb2).alloc _) (some ⟨w2.heap.size, 0, none⟩) 1 1 (cellsP x.K x.A x.B ta x.ts.length tc ca x.cs.length cc pa x.ps.length pc) (by simp [Act.eval]) rfl (fun ad he => by cases he; exact news_at w2 (cellsP x.K x.A x.B ta x.ts.length tc ca x.cs.length cc pa x.ps.length pc).toArray 45) (by intro u hu; simp at hu; rcases hu with rfl | rfl | rfl | rfl | rfl | rfl <;> rfl) (fun h => by cases h) (by unfold maxLen; omega) (by omega) (by simp; omega) ?_
          intro r4 d4 w4 ho4 hg4 ht4
          have k2 := (hg4.block q (by simp; omega) (fun e => by have h9 := (HW.out.lt _ e.symm).1; omega)).trans (blk_alloc (blk_below b2 hb2) _)
          have k1 := (hg4.block w.heap.size (by simp; omega) (fun e => by have h9 := (HW.out.lt _ e.symm).1; omega)).trans (blk_alloc (blk_below b1 hb2) _)
          have e5 := blk_cell k2 1 (v := .slice r k d) rfl
          have f5 := blk_frozen k2 1
          refine hK.out _ _ ?_ (fun hHeld' => ?_)
          · (try dsimp only)
            all_goals trivial
          clear hK K hHeld
          have hHeld := hHeld'
          clear hHeld'
          (try simp only [Act.put, List.setIfInBounds_toArray, List.set_cons_zero, List.set_cons_succ])
          refine wpAnyH_take (i := 6) (oi := ?_) (v := ?_) ?_ (by kernel_rfl) (by kernel_rfl) (by kernel_rfl) ?_ (Or.inl ⟨?_, ?_⟩) (by assumption) ?_
          rotate_left 2
          · (simp only [List.getElem?_toArray, List.getElem?_cons_zero, List.getElem?_cons_succ]; rfl)
          · exact fun _ _ _ h => h
          · rfl
          · (intro wS hSw; (try dsimp only at hSw); go_simp; (try with_reducible rfl))
          (try simp only [Act.put, List.setIfInBounds_toArray, List.set_cons_zero, List.set_cons_succ])
          refine wpAnyH_ready (rs := [7]) (by kernel_rfl) (by simp) ?_
          refine AllReadyH.cons (o := ?_) ?_ (fun K hK => ?_) AllReadyH.nil
          rotate_left
          · (simp only [List.getElem?_toArray, List.getElem?_cons_zero, List.getElem?_cons_succ]; rfl)
          go_simp
          skip
          (try go_wp2_with fail)
          refine hK.out _ _ ?_ (fun hHeld' => ?_)
          · (try dsimp only)
            all_goals trivial
          clear hK K hHeld
          have hHeld := hHeld'
          clear hHeld'
          (try simp only [Act.put, List.setIfInBounds_toArray, List.set_cons_zero, List.set_cons_succ])
          refine wpAnyH_done (by kernel_rfl) ?_ _
          have z4 : w2.heap.size < w4.heap.size := by have h9 := hg4.size; simp at h9; omega
          have BG : ∀ b, b < w2.heap.size → (Value.slice r k d).ownBlock ≠ some b → w4.heap[b]? = w2.heap[b]? := fun b hb hn => (hg4.block b (by simp; omega) (fun e => hn e.symm)).trans (Below.heap_alloc w2 _ b hb)
          have hpush := HL.out.push (F' := From (q + 1) w4.heap.size) (fun b h => h.2) hb2 ho2 (fun b h => h) BG (owns_mono ho4 (Nat.zero_le _)) (by
            rcases ht4 with h9 | h9
            · exact .inl h9
            · refine .inr (fun b e => ?_)
              rw [h9] at e
              simp at e
              omega) (by omega) (fun b h => ⟨h.1, by have := h.2; omega⟩) (fun b h => ⟨by have := h.1; omega, by have := h.2; omega⟩) (fun b h => ho4.lt b h)
          obtain ⟨X, hX⟩ : ∃ u, u = w4.setCell ⟨q, 1, none⟩ (.slice r4 (k + 1) d4) := ⟨_, rfl⟩
          have zX : X.heap.size = w4.heap.size := by rw [hX]; simp [World.setCell]
          have S : Off (fun b => b = q) w4 X := by rw [hX]; exact Off.set (F := fun b => b = q) rfl _
          obtain ⟨G', HL'⟩ : ∃ G', Hid (Laid RPart X (From (q + 1) X.heap.size) 45 r4 (k + 1) d4 (xs.take (k + 1)) (cells ++ cellsP x.K x.A x.B ta x.ts.length tc ca x.cs.length cc pa x.ps.length pc) G' (k + 1)) := by
            rw [HTK.out, zX]
            exact ⟨_, Hid.mk (hpush.frame (fun b h1 h2 => S.block b h2 (fun e => by have := h1.1; omega)))⟩
          have HW' : Hid (X.ownsRow (q + 1) 45 6 (.slice r4 (k + 1) d4) (k + 1) (cells ++ cellsP x.K x.A x.B ta x.ts.length tc ca x.cs.length cc pa x.ps.length pc)) := by rw [hX]; exact ownsRow_setCell_below ho4 (by simp) _
          have K2 : Hid (X.heap[q]? = some (.cells #[.slice r0 sn d0, .slice r4 (k + 1) d4] 31 (0, 0))) := by rw [hX]; exact blk_set k2 1 _
          have K1 : Hid (X.heap[w.heap.size]? = some (.cells #[.slice none 0 0, .slice none 0 0] 31 (0, 0))) := by rw [hX]; exact blk_other k1 (by simp; omega) _
          have HOI' : Hid (RInts.Own X (From (w.heap.size + 1) q) [.slice r0 sn d0] ss) := RInts.frame HOI.out (fun b h1 h2 => by
            have h3 := h1.2
            rw [S.block b (by omega) (fun e => by omega), BG b (by omega) (fun e => by have := (HW.out.lt b e).1; omega)]
            exact hb2.block b h2)
          have HB' : Hid (Below w.heap.size w X) := by
            rw [hX]
            have h9 := HB.out.size
            exact ((HB.out.trans (hb2.mono h9)).trans (show Below w.heap.size w2 w4 from ⟨hg4.os, hg4.tape, hg4.output, by omega, fun b hb => BG b (by omega) (fun e => by have := (HW.out.lt b e).1; omega)⟩)).setCell (by simp; omega) _
          have HZX : Hid (q < X.heap.size) := by show _ < _; rw [zX]; omega
          have HX := Hid.mk hX
          clear zX S hX hpush BG ho4 hg4 ht4 k2 k1 e5 f5 ho2 hb2 d5 hHeld
          go_wp2
          go_roundw
          case rel =>
            have hX := HX.out
            have h1 := K2.out
            have h2 := K1.out
            have h3 := HL'.out
            have h4 := HW'.out
            have h5 := HB'.out
            have h6 := HZX.out
            have h7 := HOI'.out
            rw [hX] at h1 h2 h3 h4 h5 h6 h7
            exact ⟨k + 1, r4, d4, _, _, by omega, by go_num, h1, h2, h3, h4, h7, h6, h5⟩
          case measure => simp [intOf]; omega
    · obtain rfl : k = n := by omega
      have HL := Hid.mk hl
      have HOI := Hid.mk hoi
      have u0 := blk_cell b2 0 (v := .slice r0 sn d0) rfl
      have u1 := blk_cell b2 1 (v := .slice r k d) rfl
      have p0 := blk_cell b1 0 (v := .slice none 0 0) rfl
      have p1 := blk_cell b1 1 (v := .slice none 0 0) rfl
      have f0 := blk_frozen b1 0
      have f1 := blk_frozen b1 1
      obtain ⟨Y, hY⟩ : ∃ u, u = stores wr w.heap.size 0 [.slice r0 sn d0, .slice r k d] := ⟨_, rfl⟩
      have D : Below w.heap.size w Y := by rw [hY]; exact stores_below _ _ _ _ hbw (Nat.le_refl _)
      have S : Off (fun b => b = w.heap.size) wr Y := by rw [hY]; exact stores_off (F := fun b => b = w.heap.size) _ _ _ _ rfl
      have zY : Y.heap.size = wr.heap.size := by rw [hY]; exact stores_size _ _ _ _
      have hp : RParts.Own Y (From (q + 1) Y.heap.size) [.slice r k d] xs := by
        refine ⟨r, k, d, cells, G, rfl, ?_⟩
        have h9 := hl.frame (w' := Y) (fun b h1 h2 => S.block b h2 (fun e => by have := h1.1; omega))
        rw [List.take_of_length_le (by rw [HXL.out]; exact Nat.le_refl _)] at h9
        rw [zY]
        exact h9
      have hi9 : RInts.Own Y (From (w.heap.size + 1) q) [.slice r0 sn d0] ss := RInts.ownOff hoi S (fun b h1 e => by have := h1.1; omega)
      have HR : Hid (ViewIs (.returned (.agg #[.slice r0 sn d0, .slice r k d])) Y w.heap.size (ss, xs)) := by
        refine ⟨r0, d0, r, d, by simp only [HSZ.out, HXL.out], ?_⟩
        simp only [HSZ.out, HXL.out]
        exact ⟨[_], [_], _, _, rfl, hi9, hp, fun b h => ⟨by have := h.1; omega, by have := h.2; omega⟩, fun b h => ⟨by have := h.1; omega, h.2⟩, fun b h k => by have := h.2; have := k.1; omega⟩
      have HY := Hid.mk hY
      have HD := Hid.mk D
      clear S D hY zY hp hi9 hl how hoi b1 b2 hbw
      go_wp2
      refine bodyPost_ret (v := .agg #[.slice r0 sn d0, .slice r k d]) (by simp [results, Try.results25, go_sem, p0, p1]) rfl ⟨?_, ?_⟩
      · have h := HR.out
        rw [HY.out] at h
        exact h
      · have h := HD.out
        rw [HY.out] at h
        exact h

end Go.Proofs.Ythdcjelahoiepab
