/- Contract of spec.l6Own: a view of its own. -/
import Derived.Test.YthdcjelahoiepabM21
import Derived.Test.YthdcjelahoiepabM20
namespace Go.Proofs.Ythdcjelahoiepab
open Go.RowKit

set_option maxRecDepth 100000 in
set_option maxHeartbeats 16000000 in
theorem l6Own_any (sa : Option Addr) (sn sc : Nat) (pa : Option Addr) (pn pc : Nat) (ss : List Int) (xs : List PartD) (w : World) (hsz : ss.length = sn) (hsn : sn ≤ 1048576) (hz : xs.length = pn) (hpn : pn ≤ 1000) (hs : ∀ (i : Nat) (x : PartD), xs[i]? = some x → SmPart x) (hsa : At w sa ss) (hnil : sa = none → sc = 0) (ha : AtSl RPart w pa xs) :
    Calls Try.prog 23 #[.agg #[.slice sa sn sc, .slice pa pn pc]] w fun e w' => ViewIs e w' w.heap.size (ss, xs) ∧ Below w.heap.size w w' := by
  obtain ⟨i0, hi, hz0, hz1, hz2⟩ := info_parts Try.infoPart
  obtain ⟨j0, hj, hy0, hy1, hy2⟩ := info_parts Try.infoInt
  obtain ⟨U, hU⟩ : ∃ U, U = (w.alloc (.cells #[.slice sa sn sc, .slice pa pn pc] 31)).alloc (.cells #[.slice none 0 0, .slice none 0 0] 31) := ⟨_, rfl⟩
  have zU : U.heap.size = w.heap.size + 1 + 1 := by rw [hU]; simp
  have BU : Below w.heap.size w U := by rw [hU]; exact ((Below.refl _ _).alloc (Nat.le_refl _) _).alloc (by simp) _
  have bZ : U.heap[w.heap.size + 1]? = some (.cells #[.slice none 0 0, .slice none 0 0] 31 (0, 0)) := by
    rw [hU]
    have q := heap_alloc_new (w.alloc (.cells #[.slice sa sn sc, .slice pa pn pc] 31)) (.cells #[.slice none 0 0, .slice none 0 0] 31)
    simpa only [World.size_alloc] using q
  have bB : U.heap[w.heap.size]? = some (.cells #[.slice sa sn sc, .slice pa pn pc] 31 (0, 0)) := by
    rw [hU]
    exact blk_alloc (heap_alloc_new w _) _
  have HSU : Hid (At (U.alloc (.cells #[] 3)) sa ss) := (hsa.below BU).alloc _
  have HNC : Hid (sa = none → sc = 0 ∧ sn = 0) := fun h => ⟨hnil h, by subst h; have h0 := at_none hsa; rw [← hsz, h0]; rfl⟩
  have HLC : Hid ((ss.map (Value.int .i64)).length = sn * 1) := by show _ = _; rw [List.length_map, hsz]; omega
  have HS := Hid.mk hs
  have HSZ := Hid.mk hsz
  have HXL := Hid.mk hz
  have HPA := Hid.mk ha
  have OE := owns_empty U 3 1
  have n0 := blk_cell bB 0 (v := .slice sa sn sc) rfl
  have y0 : w.heap.size < U.heap.size := by omega
  have HZU := Hid.mk zU
  clear hsa hsz hnil hz ha hs zU
  go_enter Try.func23, Try.ntmps23
  go_upto_region 1 with fail
  rw [← hU]
  clear hU
  go_wp2_with (at_builtin; refine wpList_append_vals rfl (.tmp 6) (.tmp 8) 22 rfl U.heap.size 3 j0 (.int .i64 0) 1 8 Try.underlying22 hj hy0 hy1 hy2 rfl (by decide) (.slice (some ⟨U.heap.size, 0, none⟩) 0 0) 0 [] rfl OE sa sn sc (ss.map (Value.int .i64)) rfl HLC.out (at_vals HSU.out) (ints_one _) HNC.out (by unfold maxLen; omega) (by omega) (by simp) ?_)
  intro r0 d0 w1 ho1 hg1 ht1
  (try simp only [Nat.zero_add, List.nil_append] at ho1 ht1 ⊢)
  have zU := HZU.out
  have z1 : U.heap.size < w1.heap.size := by have h9 := hg1.size; simp at h9; omega
  have hb1 : Below U.heap.size U w1 := ((Below.refl _ _).alloc (Nat.le_refl _) _).grown hg1 (by simp) (fun j hj => by simp [Value.ownBlock] at hj; omega)
  have B1 : Below w.heap.size w w1 := BU.trans (hb1.mono BU.size)
  have O1 : RInts.Own w1 (From (w.heap.size + 2) w1.heap.size) [.slice r0 sn d0] ss := RInts.own_iff.2 ⟨HSZ.out, by omega, owns_mono ho1 (Nat.zero_le _), fun b hb => ⟨by have h9 := (ho1.lt b hb).1; omega, (ho1.lt b hb).2⟩⟩
  obtain ⟨V, hV⟩ : ∃ V, V = w1.alloc (.cells #[.slice r0 sn d0, .slice none 0 0] 31) := ⟨_, rfl⟩
  have bV : Below w1.heap.size w1 V := by rw [hV]; exact (Below.refl _ _).alloc (Nat.le_refl _) _
  have v2 : V.heap[w1.heap.size]? = some (.cells #[.slice r0 sn d0, .slice none 0 0] 31 (0, 0)) := by rw [hV]; exact heap_alloc_new w1 _
  have v1 := blk_below (blk_below bZ hb1) bV
  have v0 := blk_below (blk_below bB hb1) bV
  have zV : w1.heap.size < V.heap.size := (Array.getElem?_eq_some_iff.1 v2).1
  have O2 : Hid (RInts.Own V (From (w.heap.size + 2) w1.heap.size) [.slice r0 sn d0] ss) := RInts.ownBelow O1 bV
  have HBV : Hid (Below w.heap.size w V) := B1.trans (bV.mono (by omega))
  have n1 := blk_cell v0 1 (v := .slice pa pn pc) rfl
  go_upto_region 2 with fail
  rw [← hV]
  clear hV O1 B1 bV ho1 hg1 ht1 OE HSU bZ bB BU n0 y0 HZU hb1
  obtain ⟨q, hq⟩ : ∃ q, q = w1.heap.size := ⟨_, rfl⟩
  have hq2 : w.heap.size + 2 < q := by omega
  rw [← hq] at v2 O2 zV ⊢
  clear z1 zU hq
  go_upto_region 3 with fail
  go_loopw [14] (fun i wr => ∃ (k : Nat) (r : Option Addr) (d : Nat) (cells : List Value) (G : Nat → Nat → Prop), k ≤ pn ∧ i = .int .i64 k ∧ wr.heap[q]? = some (.cells #[.slice r0 sn d0, .slice r k d] 31 (0, 0)) ∧ wr.heap[w.heap.size + 1]? = some (.cells #[.slice none 0 0, .slice none 0 0] 31 (0, 0)) ∧
    Laid RPart wr (From (q + 1) wr.heap.size) 45 r k d (xs.take k) cells G k ∧ wr.ownsRow (q + 1) 45 6 (.slice r k d) k cells ∧ RInts.Own wr (From (w.heap.size + 2) q) [.slice r0 sn d0] ss ∧ q < wr.heap.size ∧ Below w.heap.size w wr) (fun i _ => pn - (intOf i).toNat)
  case atStart => exact ⟨0, none, 0, [], _, Nat.zero_le _, rfl, v2, v1, Laid.none RPart V _ _, World.ownsRow_nil _ _ _ _, O2.out, zV, HBV.out⟩
  case round =>
    clear v2 v1 v0 zV O2 HBV n1
    obtain ⟨k, r, d, cells, G, hk, rfl, b2, b1, hl, how, hoi, zr, hbw⟩ := hrel
    by_cases hlt : k < pn
    · obtain ⟨b, off, hpa, hc⟩ := HPA.out.each (by rw [HXL.out]; omega)
      subst hpa
      obtain ⟨x, hx⟩ : ∃ x, xs[k]? = some x := ⟨_, List.getElem?_eq_getElem (by rw [HXL.out]; exact hlt)⟩
      obtain ⟨cx, hcx, hat⟩ := hc k x hx
      obtain ⟨ta, tn, tc, ca, cn, cc, qa, qn, qc, rfl, ⟨ht1, ht2, ht3, ht4⟩, ⟨hu1, hu2, hu3, hu4⟩, ⟨hp1, hp2, hp3, hp4⟩⟩ := RPart.at_open4 hat
      have g0 := cell_later hbw (hcx 0 _ rfl)
      have g1 := cell_later hbw (hcx 1 _ rfl)
      have g2 := cell_later hbw (hcx 2 _ rfl)
      have g3 := cell_later hbw (hcx 3 _ rfl)
      have g4 := cell_later hbw (hcx 4 _ rfl)
      have g5 := cell_later hbw (hcx 5 _ rfl)
      rw [RPart_k] at g0 g1 g2 g3 g4 g5
      rw [Nat.add_zero] at g0
      have HTK : Hid (xs.take (k + 1) = xs.take k ++ [x]) := by
        show _ = _
        have hk' := (List.getElem?_eq_some_iff.1 hx).1
        rw [List.take_succ_eq_append_getElem hk', (List.getElem?_eq_some_iff.1 hx).2]
      have hki : (k : Int) < (pn : Int) := by omega
      obtain ⟨wv, hwv⟩ : ∃ u, u = wr.alloc (.cells #[.int .i64 x.K, .int .i64 x.A, .int .i64 x.B, .slice ta tn tc, .slice ca cn cc, .slice qa qn qc] 45) := ⟨_, rfl⟩
      have bv : Below wr.heap.size wr wv := by rw [hwv]; exact (Below.refl _ _).alloc (Nat.le_refl _) _
      have hs0 : wv.heap[wr.heap.size]? = some (.cells #[.int .i64 x.K, .int .i64 x.A, .int .i64 x.B, .slice ta tn tc, .slice ca cn cc, .slice qa qn qc] 45 (0, 0)) := by rw [hwv]; exact heap_alloc_new wr _
      have hgx : wr.heap.size < wv.heap.size := (Array.getElem?_eq_some_iff.1 hs0).1
      have HL : Hid (Laid RPart wv (From (q + 1) wr.heap.size) 45 r k d (xs.take k) cells G k) := hl.frame (fun b _ h2 => bv.block b h2)
      have HW : Hid (wv.ownsRow (q + 1) 45 6 (.slice r k d) k cells) := owns_below how bv
      have HOI : Hid (RInts.Own wv (From (w.heap.size + 2) q) [.slice r0 sn d0] ss) := RInts.ownBelow hoi bv
      have HB : Hid (Below w.heap.size w wv) := hbw.trans (bv.mono hbw.size)
      have HCALL : Hid (Calls Try.prog 24 #[.agg #[.int .i64 x.K, .int .i64 x.A, .int .i64 x.B, .slice ta tn tc, .slice ca cn cc, .slice qa qn qc]] wv.drew fun e w' => PartRet e w' wv.heap.size x ∧ Below wv.heap.size wv.drew w') :=
        l6OwnPart_any x.K x.A x.B ta tn tc ca cn cc qa qn qc x.ts x.cs x.ps wv.drew ht1 hu1 hp1 (HS.out k x hx) (At.below ht3 (HB.out.drew)) ht4 (hu3.below HB.out.drew) hu4 (hp3.below HB.out.drew)
      have c2 := blk_below b2 bv
      have c1 := blk_below b1 bv
      have c5 := blk_cell c2 1 (v := .slice r k d) rfl
      clear hl how hoi hx hbw hcx hc hat ht1 ht2 ht3 ht4 hu1 hu2 hu3 hu4 hp1 hp2 hp3 hp4 b2 b1 bv
      go_upto_region 5 with fail
      rw [← hwv]
      clear hwv
      obtain ⟨gx, hgxe⟩ : ∃ g, g = wr.heap.size := ⟨_, rfl⟩
      rw [← hgxe] at hs0 hgx HL zr ⊢
      clear hgxe g0 g1 g2 g3 g4 g5
      have HNG : Hid ((Value.slice r k d).ownBlock ≠ some gx) := fun e => Nat.lt_irrefl gx (HL.out.outerF gx e).2
      refine wp_region_held_drew (S := fun w' => w'.heap[gx]? = some (.cells #[.int .i64 x.K, .int .i64 x.A, .int .i64 x.B, .slice ta tn tc, .slice ca cn cc, .slice qa qn qc] 45 (0, 0))) (by kernel_rfl) ?_ (fun hHeld => ?_)
      · (try dsimp only)
        (first | exact hs0 | exact hs2 | exact blk_alloc hs2 _ | exact hs4 | exact blk_other hs4 (by simp; omega) _)
      refine wpAnyH_take (i := 0) (oi := ?_) (v := ?_) ?_ (by kernel_rfl) (by kernel_rfl) (by kernel_rfl) ?_ (Or.inl ⟨?_, ?_⟩) (by assumption) ?_
      rotate_left 2
      · (simp only [List.getElem?_toArray, List.getElem?_cons_zero]; rfl)
      · exact fun _ _ _ h => h
      · rfl
      · (intro wS hSw; (try dsimp only at hSw); go_simp; (try with_reducible rfl))
      (try simp only [Act.put, List.setIfInBounds_toArray, List.set_cons_zero, List.set_cons_succ])
      refine wpAnyH_take (i := 2) (oi := ?_) (v := ?_) ?_ (by kernel_rfl) (by kernel_rfl) (by kernel_rfl) ?_ (Or.inl ⟨?_, ?_⟩) (by assumption) ?_
      rotate_left 2
      · (simp only [List.getElem?_toArray, List.getElem?_cons_zero, List.getElem?_cons_succ]; rfl)
      · exact fun _ _ _ h => h
      · rfl
      · (intro wS hSw; (try dsimp only at hSw); have a0 := blk_cell hSw 0 (v := Value.int .i64 x.K) rfl; have a1 := blk_cell hSw 1 (v := Value.int .i64 x.A) rfl; have a2 := blk_cell hSw 2 (v := Value.int .i64 x.B) rfl; have a3 := blk_cell hSw 3 (v := Value.slice ta tn tc) rfl; have a4 := blk_cell hSw 4 (v := Value.slice ca cn cc) rfl; have a5 := blk_cell hSw 5 (v := Value.slice qa qn qc) rfl; go_simp; (try with_reducible rfl))
      (try simp only [Act.put, List.setIfInBounds_toArray, List.set_cons_zero, List.set_cons_succ])
      refine wpAnyH_ready (rs := [1, 3]) (by kernel_rfl) (by simp) ?_
      refine AllReadyH.cons (o := ?_) ?_ (fun K hK => ?_) ?_
      rotate_left
      · (simp only [List.getElem?_toArray, List.getElem?_cons_zero, List.getElem?_cons_succ]; rfl)
      · go_simp
        (try go_wp2_with fail)
        refine hK.out _ _ ?_ (fun hHeld' => ?_)
        · (try dsimp only)
          (first | exact hs0 | exact hs2 | exact blk_alloc hs2 _ | exact hs4 | exact blk_other hs4 (by simp; omega) _)
        clear hK K hHeld
        have hHeld := hHeld'
        clear hHeld'
        (try simp only [Act.put, List.setIfInBounds_toArray, List.set_cons_zero, List.set_cons_succ])
        refine wpAnyH_ready (rs := [3]) (by kernel_rfl) (by simp) ?_
        refine AllReadyH.cons (o := ?_) ?_ (fun K hK => ?_) AllReadyH.nil
        rotate_left
        · (simp only [List.getElem?_toArray, List.getElem?_cons_zero, List.getElem?_cons_succ]; rfl)
        go_simp
        refine HCALL.out.mono ?_
        rintro e w2 ⟨⟨ta2, tc2, ca2, cc2, pa2, pc2, rfl, ho2⟩, hd2⟩
        have hb2 : Below wv.heap.size wv w2 := (Below.refl _ _).drew.trans hd2
        have z2 := hb2.size
        have d5 := cell_later hb2 c5
        have hs2 := blk_below hs0 hb2
        clear hd2
        (try go_wp2_with fail)
        refine hK.out _ _ ?_ (fun hHeld' => ?_)
        · (try dsimp only)
          (first | exact hs0 | exact hs2 | exact blk_alloc hs2 _ | exact hs4 | exact blk_other hs4 (by simp; omega) _)
        clear hK K hHeld
        have hHeld := hHeld'
        clear hHeld'
        (try simp only [Act.put, List.setIfInBounds_toArray, List.set_cons_zero, List.set_cons_succ])
        refine wpAnyH_ready (rs := [4]) (by kernel_rfl) (by simp) ?_
        refine AllReadyH.cons (o := ?_) ?_ (fun K hK => ?_) AllReadyH.nil
        rotate_left
        · (simp only [List.getElem?_toArray, List.getElem?_cons_zero, List.getElem?_cons_succ]; rfl)
        go_simp
        skip
        (try go_wp2_with fail)
        refine hK.out _ _ ?_ (fun hHeld' => ?_)
        · (try dsimp only)
          (first | exact hs0 | exact hs2 | exact blk_alloc hs2 _ | exact hs4 | exact blk_other hs4 (by simp; omega) _)
        clear hK K hHeld
        have hHeld := hHeld'
        clear hHeld'
        (try simp only [Act.put, List.setIfInBounds_toArray, List.set_cons_zero, List.set_cons_succ])
        refine wpAnyH_ready (rs := [5]) (by kernel_rfl) (by simp) ?_
        refine AllReadyH.cons (o := ?_) ?_ (fun K hK => ?_) AllReadyH.nil
        rotate_left
        · (simp only [List.getElem?_toArray, List.getElem?_cons_zero, List.getElem?_cons_succ]; rfl)
        refine step_append_vals rfl (.tmp 19) (.tmp 22) 29 rfl (q + 1) 45 i0 (.agg #[.int .i64 0, .int .i64 0, .int .i64 0, .slice none 0 0, .slice none 0 0, .slice none 0 0]) 6 96 Try.underlying29 hi hz0 hz1 hz2 rfl (by decide) (.slice r k d) k cells (by simp [Act.eval]) ((owns_below HW.out hb2).alloc _) (some ⟨w2.heap.size, 0, none⟩) 1 1 (cellsP x.K x.A x.B ta2 x.ts.length tc2 ca2 x.cs.length cc2 pa2 x.ps.length pc2) (by simp [Act.eval]) rfl (fun ad he => by cases he; exact news_at w2 (cellsP x.K x.A x.B ta2 x.ts.length tc2 ca2 x.cs.length cc2 pa2 x.ps.length pc2).toArray 45) (by intro u hu; simp at hu; rcases hu with rfl | rfl | rfl | rfl | rfl | rfl <;> rfl) (fun h => by cases h) (by unfold maxLen; omega) (by omega) (by simp; omega) ?_
        intro r4 d4 w4 ho4 hg4 ht4
        have k2 := (hg4.block q (by simp; omega) (fun e => by have h9 := (HW.out.lt _ e.symm).1; omega)).trans (blk_alloc (blk_below c2 hb2) _)
        have k1 := (hg4.block (w.heap.size + 1) (by simp; omega) (fun e => by have h9 := (HW.out.lt _ e.symm).1; omega)).trans (blk_alloc (blk_below c1 hb2) _)
        have hs4 := (hg4.block gx (by simp; omega) (fun e => HNG.out e.symm)).trans (blk_alloc hs2 _)
        have e5 := blk_cell k2 1 (v := .slice r k d) rfl
        have f5 := blk_frozen k2 1
        refine hK.out _ _ ?_ (fun hHeld' => ?_)
        · (try dsimp only)
          (first | exact hs0 | exact hs2 | exact blk_alloc hs2 _ | exact hs4 | exact blk_other hs4 (by simp; omega) _)
        clear hK K hHeld
        have hHeld := hHeld'
        clear hHeld'
        (try simp only [Act.put, List.setIfInBounds_toArray, List.set_cons_zero, List.set_cons_succ])
        refine wpAnyH_take (i := 6) (oi := ?_) (v := ?_) ?_ (by kernel_rfl) (by kernel_rfl) (by kernel_rfl) ?_ (Or.inl ⟨?_, ?_⟩) (by assumption) ?_
        rotate_left 2
        · (simp only [List.getElem?_toArray, List.getElem?_cons_zero, List.getElem?_cons_succ]; rfl)
        · exact fun _ _ _ h => h
        · rfl
        · (intro wS hSw; (try dsimp only at hSw); go_simp; (try with_reducible rfl))
        (try simp only [Act.put, List.setIfInBounds_toArray, List.set_cons_zero, List.set_cons_succ])
        refine wpAnyH_ready (rs := [7]) (by kernel_rfl) (by simp) ?_
        refine AllReadyH.cons (o := ?_) ?_ (fun K hK => ?_) AllReadyH.nil
        rotate_left
        · (simp only [List.getElem?_toArray, List.getElem?_cons_zero, List.getElem?_cons_succ]; rfl)
        go_simp
        skip
        (try go_wp2_with fail)
        refine hK.out _ _ ?_ (fun hHeld' => ?_)
        · (try dsimp only)
          (first | exact hs0 | exact hs2 | exact blk_alloc hs2 _ | exact hs4 | exact blk_other hs4 (by simp; omega) _)
        clear hK K hHeld
        have hHeld := hHeld'
        clear hHeld'
        (try simp only [Act.put, List.setIfInBounds_toArray, List.set_cons_zero, List.set_cons_succ])
        refine wpAnyH_done (by kernel_rfl) ?_ _
        have z4 : w2.heap.size < w4.heap.size := by have h9 := hg4.size; simp at h9; omega
        have BG : ∀ b, b < w2.heap.size → (Value.slice r k d).ownBlock ≠ some b → w4.heap[b]? = w2.heap[b]? := fun b hb hn => (hg4.block b (by simp; omega) (fun e => hn e.symm)).trans (Below.heap_alloc w2 _ b hb)
        have hpush := HL.out.push (F' := From (q + 1) w4.heap.size) (fun b h => Nat.lt_trans h.2 hgx) hb2 ho2 (fun b h => h) BG (owns_mono ho4 (Nat.zero_le _)) (by
          rcases ht4 with h9 | h9
          · exact .inl h9
          · refine .inr (fun b e => ?_)
            rw [h9] at e
            simp at e
            omega) (by omega) (fun b h => ⟨h.1, by have := h.2; omega⟩) (fun b h => ⟨by have := h.1; omega, by have := h.2; omega⟩) (fun b h => ho4.lt b h)
        obtain ⟨X, hX⟩ : ∃ u, u = w4.setCell ⟨q, 1, none⟩ (.slice r4 (k + 1) d4) := ⟨_, rfl⟩
        have zX : X.heap.size = w4.heap.size := by rw [hX]; simp [World.setCell]
        have S : Off (fun b => b = q) w4 X := by rw [hX]; exact Off.set (F := fun b => b = q) rfl _
        obtain ⟨G', HL'⟩ : ∃ G', Hid (Laid RPart X (From (q + 1) X.heap.size) 45 r4 (k + 1) d4 (xs.take (k + 1)) (cells ++ (cellsP x.K x.A x.B ta2 x.ts.length tc2 ca2 x.cs.length cc2 pa2 x.ps.length pc2)) G' (k + 1)) := by
          rw [HTK.out, zX]
          exact ⟨_, Hid.mk (hpush.frame (fun b h1 h2 => S.block b h2 (fun e => by have := h1.1; omega)))⟩
        have HW' : Hid (X.ownsRow (q + 1) 45 6 (.slice r4 (k + 1) d4) (k + 1) (cells ++ (cellsP x.K x.A x.B ta2 x.ts.length tc2 ca2 x.cs.length cc2 pa2 x.ps.length pc2))) := by rw [hX]; exact ownsRow_setCell_below ho4 (by simp) _
        have K2 : Hid (X.heap[q]? = some (.cells #[.slice r0 sn d0, .slice r4 (k + 1) d4] 31 (0, 0))) := by rw [hX]; exact blk_set k2 1 _
        have K1 : Hid (X.heap[w.heap.size + 1]? = some (.cells #[.slice none 0 0, .slice none 0 0] 31 (0, 0))) := by rw [hX]; exact blk_other k1 (by simp; omega) _
        have HOI' : Hid (RInts.Own X (From (w.heap.size + 2) q) [.slice r0 sn d0] ss) := RInts.frame HOI.out (fun b h1 h2 => by
          have h3 := h1.2
          rw [S.block b (by omega) (fun e => by omega), BG b (by omega) (fun e => by have := (HW.out.lt b e).1; omega)]
          exact hb2.block b h2)
        have HB' : Hid (Below w.heap.size w X) := by
          rw [hX]
          have h9 := HB.out.size
          exact ((HB.out.trans (hb2.mono h9)).trans (show Below w.heap.size w2 w4 from ⟨hg4.os, hg4.tape, hg4.output, by omega, fun b hb => BG b (by omega) (fun e => by have := (HW.out.lt b e).1; omega)⟩)).setCell (by simp; omega) _
        have HZX : Hid (q < X.heap.size) := by show _ < _; rw [zX]; omega
        have HX := Hid.mk hX
        clear zX S hX hpush BG ho4 hg4 ht4 k2 k1 e5 f5 ho2 hb2 d5 hHeld hs2 hs4
        go_wp2
        go_roundw
        case rel =>
          have hX := HX.out
          have h1 := K2.out
          have h2 := K1.out
          have h3 := HL'.out
          have h4 := HW'.out
          have h5 := HB'.out
          have h6 := HZX.out
          have h7 := HOI'.out
          rw [hX] at h1 h2 h3 h4 h5 h6 h7
          exact ⟨k + 1, r4, d4, _, _, by omega, by go_num, h1, h2, h3, h4, h7, h6, h5⟩
        case measure => simp [intOf]; omega
      refine AllReadyH.cons (o := ?_) ?_ (fun K hK => ?_) AllReadyH.nil
      rotate_left
      · (simp only [List.getElem?_toArray, List.getElem?_cons_zero, List.getElem?_cons_succ]; rfl)
      · go_simp
        refine HCALL.out.mono ?_
        rintro e w2 ⟨⟨ta2, tc2, ca2, cc2, pa2, pc2, rfl, ho2⟩, hd2⟩
        have hb2 : Below wv.heap.size wv w2 := (Below.refl _ _).drew.trans hd2
        have z2 := hb2.size
        have d5 := cell_later hb2 c5
        have hs2 := blk_below hs0 hb2
        clear hd2
        (try go_wp2_with fail)
        refine hK.out _ _ ?_ (fun hHeld' => ?_)
        · (try dsimp only)
          (first | exact hs0 | exact hs2 | exact blk_alloc hs2 _ | exact hs4 | exact blk_other hs4 (by simp; omega) _)
        clear hK K hHeld
        have hHeld := hHeld'
        clear hHeld'
        (try simp only [Act.put, List.setIfInBounds_toArray, List.set_cons_zero, List.set_cons_succ])
        refine wpAnyH_ready (rs := [1, 4]) (by kernel_rfl) (by simp) ?_
        refine AllReadyH.cons (o := ?_) ?_ (fun K hK => ?_) ?_
        rotate_left
        · (simp only [List.getElem?_toArray, List.getElem?_cons_zero, List.getElem?_cons_succ]; rfl)
        · go_simp
          (try go_wp2_with fail)
          refine hK.out _ _ ?_ (fun hHeld' => ?_)
          · (try dsimp only)
            (first | exact hs0 | exact hs2 | exact blk_alloc hs2 _ | exact hs4 | exact blk_other hs4 (by simp; omega) _)
          clear hK K hHeld
          have hHeld := hHeld'
          clear hHeld'
          (try simp only [Act.put, List.setIfInBounds_toArray, List.set_cons_zero, List.set_cons_succ])
          refine wpAnyH_ready (rs := [4]) (by kernel_rfl) (by simp) ?_
          refine AllReadyH.cons (o := ?_) ?_ (fun K hK => ?_) AllReadyH.nil
          rotate_left
          · (simp only [List.getElem?_toArray, List.getElem?_cons_zero, List.getElem?_cons_succ]; rfl)
          go_simp
          skip
          (try go_wp2_with fail)
          refine hK.out _ _ ?_ (fun hHeld' => ?_)
          · (try dsimp only)
            (first | exact hs0 | exact hs2 | exact blk_alloc hs2 _ | exact hs4 | exact blk_other hs4 (by simp; omega) _)
          clear hK K hHeld
          have hHeld := hHeld'
          clear hHeld'
          (try simp only [Act.put, List.setIfInBounds_toArray, List.set_cons_zero, List.set_cons_succ])
          refine wpAnyH_ready (rs := [5]) (by kernel_rfl) (by simp) ?_
          refine AllReadyH.cons (o := ?_) ?_ (fun K hK => ?_) AllReadyH.nil
          rotate_left
          · (simp only [List.getElem?_toArray, List.getElem?_cons_zero, List.getElem?_cons_succ]; rfl)
          refine step_append_vals rfl (.tmp 19) (.tmp 22) 29 rfl (q + 1) 45 i0 (.agg #[.int .i64 0, .int .i64 0, .int .i64 0, .slice none 0 0, .slice none 0 0, .slice none 0 0]) 6 96 Try.underlying29 hi hz0 hz1 hz2 rfl (by decide) (.slice r k d) k cells (by simp [Act.eval]) ((owns_below HW.out hb2).alloc _) (some ⟨w2.heap.size, 0, none⟩) 1 1 (cellsP x.K x.A x.B ta2 x.ts.length tc2 ca2 x.cs.length cc2 pa2 x.ps.length pc2) (by simp [Act.eval]) rfl (fun ad he => by cases he; exact news_at w2 (cellsP x.K x.A x.B ta2 x.ts.length tc2 ca2 x.cs.length cc2 pa2 x.ps.length pc2).toArray 45) (by intro u hu; simp at hu; rcases hu with rfl | rfl | rfl | rfl | rfl | rfl <;> rfl) (fun h => by cases h) (by unfold maxLen; omega) (by omega) (by simp; omega) ?_
          intro r4 d4 w4 ho4 hg4 ht4
          have k2 := (hg4.block q (by simp; omega) (fun e => by have h9 := (HW.out.lt _ e.symm).1; omega)).trans (blk_alloc (blk_below c2 hb2) _)
          have k1 := (hg4.block (w.heap.size + 1) (by simp; omega) (fun e => by have h9 := (HW.out.lt _ e.symm).1; omega)).trans (blk_alloc (blk_below c1 hb2) _)
          have hs4 := (hg4.block gx (by simp; omega) (fun e => HNG.out e.symm)).trans (blk_alloc hs2 _)
          have e5 := blk_cell k2 1 (v := .slice r k d) rfl
          have f5 := blk_frozen k2 1
          refine hK.out _ _ ?_ (fun hHeld' => ?_)
          · (try dsimp only)
            (first | exact hs0 | exact hs2 | exact blk_alloc hs2 _ | exact hs4 | exact blk_other hs4 (by simp; omega) _)
          clear hK K hHeld
          have hHeld := hHeld'
          clear hHeld'
          (try simp only [Act.put, List.setIfInBounds_toArray, List.set_cons_zero, List.set_cons_succ])
          refine wpAnyH_take (i := 6) (oi := ?_) (v := ?_) ?_ (by kernel_rfl) (by kernel_rfl) (by kernel_rfl) ?_ (Or.inl ⟨?_, ?_⟩) (by assumption) ?_
          rotate_left 2
          · (simp only [List.getElem?_toArray, List.getElem?_cons_zero, List.getElem?_cons_succ]; rfl)
          · exact fun _ _ _ h => h
          · rfl
          · (intro wS hSw; (try dsimp only at hSw); go_simp; (try with_reducible rfl))
          (try simp only [Act.put, List.setIfInBounds_toArray, List.set_cons_zero, List.set_cons_succ])
          refine wpAnyH_ready (rs := [7]) (by kernel_rfl) (by simp) ?_
          refine AllReadyH.cons (o := ?_) ?_ (fun K hK => ?_) AllReadyH.nil
          rotate_left
          · (simp only [List.getElem?_toArray, List.getElem?_cons_zero, List.getElem?_cons_succ]; rfl)
          go_simp
          skip
          (try go_wp2_with fail)
          refine hK.out _ _ ?_ (fun hHeld' => ?_)
          · (try dsimp only)
            (first | exact hs0 | exact hs2 | exact blk_alloc hs2 _ | exact hs4 | exact blk_other hs4 (by simp; omega) _)
          clear hK K hHeld
          have hHeld := hHeld'
          clear hHeld'
          (try simp only [Act.put, List.setIfInBounds_toArray, List.set_cons_zero, List.set_cons_succ])
          refine wpAnyH_done (by kernel_rfl) ?_ _
          have z4 : w2.heap.size < w4.heap.size := by have h9 := hg4.size; simp at h9; omega
          have BG : ∀ b, b < w2.heap.size → (Value.slice r k d).ownBlock ≠ some b → w4.heap[b]? = w2.heap[b]? := fun b hb hn => (hg4.block b (by simp; omega) (fun e => hn e.symm)).trans (Below.heap_alloc w2 _ b hb)
          have hpush := HL.out.push (F' := From (q + 1) w4.heap.size) (fun b h => Nat.lt_trans h.2 hgx) hb2 ho2 (fun b h => h) BG (owns_mono ho4 (Nat.zero_le _)) (by
            rcases ht4 with h9 | h9
            · exact .inl h9
            · refine .inr (fun b e => ?_)
              rw [h9] at e
              simp at e
              omega) (by omega) (fun b h => ⟨h.1, by have := h.2; omega⟩) (fun b h => ⟨by have := h.1; omega, by have := h.2; omega⟩) (fun b h => ho4.lt b h)
          obtain ⟨X, hX⟩ : ∃ u, u = w4.setCell ⟨q, 1, none⟩ (.slice r4 (k + 1) d4) := ⟨_, rfl⟩
          have zX : X.heap.size = w4.heap.size := by rw [hX]; simp [World.setCell]
          have S : Off (fun b => b = q) w4 X := by rw [hX]; exact Off.set (F := fun b => b = q) rfl _
          obtain ⟨G', HL'⟩ : ∃ G', Hid (Laid RPart X (From (q + 1) X.heap.size) 45 r4 (k + 1) d4 (xs.take (k + 1)) (cells ++ (cellsP x.K x.A x.B ta2 x.ts.length tc2 ca2 x.cs.length cc2 pa2 x.ps.length pc2)) G' (k + 1)) := by
            rw [HTK.out, zX]
            exact ⟨_, Hid.mk (hpush.frame (fun b h1 h2 => S.block b h2 (fun e => by have := h1.1; omega)))⟩
          have HW' : Hid (X.ownsRow (q + 1) 45 6 (.slice r4 (k + 1) d4) (k + 1) (cells ++ (cellsP x.K x.A x.B ta2 x.ts.length tc2 ca2 x.cs.length cc2 pa2 x.ps.length pc2))) := by rw [hX]; exact ownsRow_setCell_below ho4 (by simp) _
          have K2 : Hid (X.heap[q]? = some (.cells #[.slice r0 sn d0, .slice r4 (k + 1) d4] 31 (0, 0))) := by rw [hX]; exact blk_set k2 1 _
          have K1 : Hid (X.heap[w.heap.size + 1]? = some (.cells #[.slice none 0 0, .slice none 0 0] 31 (0, 0))) := by rw [hX]; exact blk_other k1 (by simp; omega) _
          have HOI' : Hid (RInts.Own X (From (w.heap.size + 2) q) [.slice r0 sn d0] ss) := RInts.frame HOI.out (fun b h1 h2 => by
            have h3 := h1.2
            rw [S.block b (by omega) (fun e => by omega), BG b (by omega) (fun e => by have := (HW.out.lt b e).1; omega)]
            exact hb2.block b h2)
          have HB' : Hid (Below w.heap.size w X) := by
            rw [hX]
            have h9 := HB.out.size
            exact ((HB.out.trans (hb2.mono h9)).trans (show Below w.heap.size w2 w4 from ⟨hg4.os, hg4.tape, hg4.output, by omega, fun b hb => BG b (by omega) (fun e => by have := (HW.out.lt b e).1; omega)⟩)).setCell (by simp; omega) _
          have HZX : Hid (q < X.heap.size) := by show _ < _; rw [zX]; omega
          have HX := Hid.mk hX
          clear zX S hX hpush BG ho4 hg4 ht4 k2 k1 e5 f5 ho2 hb2 d5 hHeld hs2 hs4
          go_wp2
          go_roundw
          case rel =>
            have hX := HX.out
            have h1 := K2.out
            have h2 := K1.out
            have h3 := HL'.out
            have h4 := HW'.out
            have h5 := HB'.out
            have h6 := HZX.out
            have h7 := HOI'.out
            rw [hX] at h1 h2 h3 h4 h5 h6 h7
            exact ⟨k + 1, r4, d4, _, _, by omega, by go_num, h1, h2, h3, h4, h7, h6, h5⟩
          case measure => simp [intOf]; omega
        refine AllReadyH.cons (o := ?_) ?_ (fun K hK => ?_) AllReadyH.nil
        rotate_left
        · (simp only [List.getElem?_toArray, List.getElem?_cons_zero, List.getElem?_cons_succ]; rfl)
        · go_simp
          (try go_wp2_with fail)
          refine hK.out _ _ ?_ (fun hHeld' => ?_)
          · (try dsimp only)
            (first | exact hs0 | exact hs2 | exact blk_alloc hs2 _ | exact hs4 | exact blk_other hs4 (by simp; omega) _)
          clear hK K hHeld
          have hHeld := hHeld'
          clear hHeld'
          (try simp only [Act.put, List.setIfInBounds_toArray, List.set_cons_zero, List.set_cons_succ])
          have u2 := cell_later ((Below.refl _ _).alloc (Nat.le_refl _) (.cells (cellsP x.K x.A x.B ta2 x.ts.length tc2 ca2 x.cs.length cc2 pa2 x.ps.length pc2).toArray 45)) d5
          refine wpAnyH_ready (rs := [1]) (by kernel_rfl) (by simp) ?_
          refine AllReadyH.cons (o := ?_) ?_ (fun K hK => ?_) AllReadyH.nil
          rotate_left
          · (simp only [List.getElem?_toArray, List.getElem?_cons_zero, List.getElem?_cons_succ]; rfl)
          go_simp
          skip
          (try go_wp2_with fail)
          refine hK.out _ _ ?_ (fun hHeld' => ?_)
          · (try dsimp only)
            (first | exact hs0 | exact hs2 | exact blk_alloc hs2 _ | exact hs4 | exact blk_other hs4 (by simp; omega) _)
          clear hK K hHeld
          have hHeld := hHeld'
          clear hHeld'
          (try simp only [Act.put, List.setIfInBounds_toArray, List.set_cons_zero, List.set_cons_succ])
          clear u2
          refine wpAnyH_ready (rs := [5]) (by kernel_rfl) (by simp) ?_
          refine AllReadyH.cons (o := ?_) ?_ (fun K hK => ?_) AllReadyH.nil
          rotate_left
          · (simp only [List.getElem?_toArray, List.getElem?_cons_zero, List.getElem?_cons_succ]; rfl)
          refine step_append_vals rfl (.tmp 19) (.tmp 22) 29 rfl (q + 1) 45 i0 (.agg #[.int .i64 0, .int .i64 0, .int .i64 0, .slice none 0 0, .slice none 0 0, .slice none 0 0]) 6 96 Try.underlying29 hi hz0 hz1 hz2 rfl (by decide) (.slice r k d) k cells (by simp [Act.eval]) ((owns_below HW.out hb2).alloc _) (some ⟨w2.heap.size, 0, none⟩) 1 1 (cellsP x.K x.A x.B ta2 x.ts.length tc2 ca2 x.cs.length cc2 pa2 x.ps.length pc2) (by simp [Act.eval]) rfl (fun ad he => by cases he; exact news_at w2 (cellsP x.K x.A x.B ta2 x.ts.length tc2 ca2 x.cs.length cc2 pa2 x.ps.length pc2).toArray 45) (by intro u hu; simp at hu; rcases hu with rfl | rfl | rfl | rfl | rfl | rfl <;> rfl) (fun h => by cases h) (by unfold maxLen; omega) (by omega) (by simp; omega) ?_
          intro r4 d4 w4 ho4 hg4 ht4
          have k2 := (hg4.block q (by simp; omega) (fun e => by have h9 := (HW.out.lt _ e.symm).1; omega)).trans (blk_alloc (blk_below c2 hb2) _)
          have k1 := (hg4.block (w.heap.size + 1) (by simp; omega) (fun e => by have h9 := (HW.out.lt _ e.symm).1; omega)).trans (blk_alloc (blk_below c1 hb2) _)
          have hs4 := (hg4.block gx (by simp; omega) (fun e => HNG.out e.symm)).trans (blk_alloc hs2 _)
          have e5 := blk_cell k2 1 (v := .slice r k d) rfl
          have f5 := blk_frozen k2 1
          refine hK.out _ _ ?_ (fun hHeld' => ?_)
          · (try dsimp only)
            (first | exact hs0 | exact hs2 | exact blk_alloc hs2 _ | exact hs4 | exact blk_other hs4 (by simp; omega) _)
          clear hK K hHeld
          have hHeld := hHeld'
          clear hHeld'
          (try simp only [Act.put, List.setIfInBounds_toArray, List.set_cons_zero, List.set_cons_succ])
          refine wpAnyH_take (i := 6) (oi := ?_) (v := ?_) ?_ (by kernel_rfl) (by kernel_rfl) (by kernel_rfl) ?_ (Or.inl ⟨?_, ?_⟩) (by assumption) ?_
          rotate_left 2
          · (simp only [List.getElem?_toArray, List.getElem?_cons_zero, List.getElem?_cons_succ]; rfl)
          · exact fun _ _ _ h => h
          · rfl
          · (intro wS hSw; (try dsimp only at hSw); go_simp; (try with_reducible rfl))
          (try simp only [Act.put, List.setIfInBounds_toArray, List.set_cons_zero, List.set_cons_succ])
          refine wpAnyH_ready (rs := [7]) (by kernel_rfl) (by simp) ?_
          refine AllReadyH.cons (o := ?_) ?_ (fun K hK => ?_) AllReadyH.nil
          rotate_left
          · (simp only [List.getElem?_toArray, List.getElem?_cons_zero, List.getElem?_cons_succ]; rfl)
          go_simp
          skip
          (try go_wp2_with fail)
          refine hK.out _ _ ?_ (fun hHeld' => ?_)
          · (try dsimp only)
            (first | exact hs0 | exact hs2 | exact blk_alloc hs2 _ | exact hs4 | exact blk_other hs4 (by simp; omega) _)
          clear hK K hHeld
          have hHeld := hHeld'
          clear hHeld'
          (try simp only [Act.put, List.setIfInBounds_toArray, List.set_cons_zero, List.set_cons_succ])
          refine wpAnyH_done (by kernel_rfl) ?_ _
          have z4 : w2.heap.size < w4.heap.size := by have h9 := hg4.size; simp at h9; omega
          have BG : ∀ b, b < w2.heap.size → (Value.slice r k d).ownBlock ≠ some b → w4.heap[b]? = w2.heap[b]? := fun b hb hn => (hg4.block b (by simp; omega) (fun e => hn e.symm)).trans (Below.heap_alloc w2 _ b hb)
          have hpush := HL.out.push (F' := From (q + 1) w4.heap.size) (fun b h => Nat.lt_trans h.2 hgx) hb2 ho2 (fun b h => h) BG (owns_mono ho4 (Nat.zero_le _)) (by
            rcases ht4 with h9 | h9
            · exact .inl h9
            · refine .inr (fun b e => ?_)
              rw [h9] at e
              simp at e
              omega) (by omega) (fun b h => ⟨h.1, by have := h.2; omega⟩) (fun b h => ⟨by have := h.1; omega, by have := h.2; omega⟩) (fun b h => ho4.lt b h)
          obtain ⟨X, hX⟩ : ∃ u, u = w4.setCell ⟨q, 1, none⟩ (.slice r4 (k + 1) d4) := ⟨_, rfl⟩
          have zX : X.heap.size = w4.heap.size := by rw [hX]; simp [World.setCell]
          have S : Off (fun b => b = q) w4 X := by rw [hX]; exact Off.set (F := fun b => b = q) rfl _
          obtain ⟨G', HL'⟩ : ∃ G', Hid (Laid RPart X (From (q + 1) X.heap.size) 45 r4 (k + 1) d4 (xs.take (k + 1)) (cells ++ (cellsP x.K x.A x.B ta2 x.ts.length tc2 ca2 x.cs.length cc2 pa2 x.ps.length pc2)) G' (k + 1)) := by
            rw [HTK.out, zX]
            exact ⟨_, Hid.mk (hpush.frame (fun b h1 h2 => S.block b h2 (fun e => by have := h1.1; omega)))⟩
          have HW' : Hid (X.ownsRow (q + 1) 45 6 (.slice r4 (k + 1) d4) (k + 1) (cells ++ (cellsP x.K x.A x.B ta2 x.ts.length tc2 ca2 x.cs.length cc2 pa2 x.ps.length pc2))) := by rw [hX]; exact ownsRow_setCell_below ho4 (by simp) _
          have K2 : Hid (X.heap[q]? = some (.cells #[.slice r0 sn d0, .slice r4 (k + 1) d4] 31 (0, 0))) := by rw [hX]; exact blk_set k2 1 _
          have K1 : Hid (X.heap[w.heap.size + 1]? = some (.cells #[.slice none 0 0, .slice none 0 0] 31 (0, 0))) := by rw [hX]; exact blk_other k1 (by simp; omega) _
          have HOI' : Hid (RInts.Own X (From (w.heap.size + 2) q) [.slice r0 sn d0] ss) := RInts.frame HOI.out (fun b h1 h2 => by
            have h3 := h1.2
            rw [S.block b (by omega) (fun e => by omega), BG b (by omega) (fun e => by have := (HW.out.lt b e).1; omega)]
            exact hb2.block b h2)
          have HB' : Hid (Below w.heap.size w X) := by
            rw [hX]
            have h9 := HB.out.size
            exact ((HB.out.trans (hb2.mono h9)).trans (show Below w.heap.size w2 w4 from ⟨hg4.os, hg4.tape, hg4.output, by omega, fun b hb => BG b (by omega) (fun e => by have := (HW.out.lt b e).1; omega)⟩)).setCell (by simp; omega) _
          have HZX : Hid (q < X.heap.size) := by show _ < _; rw [zX]; omega
          have HX := Hid.mk hX
          clear zX S hX hpush BG ho4 hg4 ht4 k2 k1 e5 f5 ho2 hb2 d5 hHeld hs2 hs4
          go_wp2
          go_roundw
          case rel =>
            have hX := HX.out
            have h1 := K2.out
            have h2 := K1.out
            have h3 := HL'.out
            have h4 := HW'.out
            have h5 := HB'.out
            have h6 := HZX.out
            have h7 := HOI'.out
            rw [hX] at h1 h2 h3 h4 h5 h6 h7
            exact ⟨k + 1, r4, d4, _, _, by omega, by go_num, h1, h2, h3, h4, h7, h6, h5⟩
          case measure => simp [intOf]; omega
    · obtain rfl : k = pn := by omega
      have HL := Hid.mk hl
      have HOI := Hid.mk hoi
      have u0 := blk_cell b2 0 (v := .slice r0 sn d0) rfl
      have u1 := blk_cell b2 1 (v := .slice r k d) rfl
      have p0 := blk_cell b1 0 (v := .slice none 0 0) rfl
      have p1 := blk_cell b1 1 (v := .slice none 0 0) rfl
      have f0 := blk_frozen b1 0
      have f1 := blk_frozen b1 1
      obtain ⟨Y, hY⟩ : ∃ u, u = stores wr (w.heap.size + 1) 0 [.slice r0 sn d0, .slice r k d] := ⟨_, rfl⟩
      have D : Below w.heap.size w Y := by rw [hY]; exact stores_below _ _ _ _ hbw (by omega)
      have S : Off (fun b => b = w.heap.size + 1) wr Y := by rw [hY]; exact stores_off (F := fun b => b = w.heap.size + 1) _ _ _ _ rfl
      have zY : Y.heap.size = wr.heap.size := by rw [hY]; exact stores_size _ _ _ _
      have hp : RParts.Own Y (From (q + 1) Y.heap.size) [.slice r k d] xs := by
        refine ⟨r, k, d, cells, G, rfl, ?_⟩
        have h9 := hl.frame (w' := Y) (fun b h1 h2 => S.block b h2 (fun e => by have := h1.1; omega))
        rw [List.take_of_length_le (by rw [HXL.out]; exact Nat.le_refl _)] at h9
        rw [zY]
        exact h9
      have hi9 : RInts.Own Y (From (w.heap.size + 2) q) [.slice r0 sn d0] ss := RInts.ownOff hoi S (fun b h1 e => by have := h1.1; omega)
      have HR : Hid (ViewIs (.returned (.agg #[.slice r0 sn d0, .slice r k d])) Y w.heap.size (ss, xs)) := by
        refine ⟨r0, d0, r, d, by simp only [HSZ.out, HXL.out], ?_⟩
        simp only [HSZ.out, HXL.out]
        exact ⟨[_], [_], _, _, rfl, hi9, hp, fun b h => ⟨by have := h.1; omega, by have := h.2; omega⟩, fun b h => ⟨by have := h.1; omega, h.2⟩, fun b h k => by have := h.2; have := k.1; omega⟩
      have HY := Hid.mk hY
      have HD := Hid.mk D
      clear S D hY zY hp hi9 hl how hoi b1 b2 hbw
      go_wp2
      refine bodyPost_ret (v := .agg #[.slice r0 sn d0, .slice r k d]) (by simp [results, Try.results23, go_sem, p0, p1]) rfl ⟨?_, ?_⟩
      · have h := HR.out
        rw [HY.out] at h
        exact h
      · have h := HD.out
        rw [HY.out] at h
        exact h

end Go.Proofs.Ythdcjelahoiepab
