/- Contract of spec.l9Own. -/
import Derived.Test.YthliamoeplgblaaM10
namespace Go.Proofs.Ythliamoeplgblaa
open Go.RowKit

set_option maxRecDepth 100000 in
set_option maxHeartbeats 8000000 in
theorem l9Own_any (p : Int) (a : Option Addr) (n c : Nat) (zss : List (List Int)) (w : World) (hz : zss.length = n) (hn : n ≤ 1048576) (hs : ∀ (k : Nat) (z : List Int), zss[k]? = some z → z.length ≤ 1048576) (ha : AtR w a zss) :
    Calls Try.prog 43 #[.agg #[.int .i64 p, .slice a n c]] w fun e w' => ∃ r d, e = .returned (.agg #[.int .i64 p, .slice r n d]) ∧ RRows.Own w' (From w.heap.size w'.heap.size) [.slice r n d] zss ∧ Below w.heap.size w w' := by
  obtain ⟨k0, hk0, hx0, hx1, hx2⟩ := info_parts Try.infoRow
  obtain ⟨V, hV⟩ : ∃ V, V = (w.alloc (.cells #[.int .i64 p, .slice a n c] 30)).alloc (.cells #[.int .i64 0, .slice none 0 0] 30) := ⟨_, rfl⟩
  obtain ⟨W, hW⟩ : ∃ W, W = V.alloc (.cells #[.int .i64 p, .slice none 0 0] 30) := ⟨_, rfl⟩
  have zV : V.heap.size = w.heap.size + 1 + 1 := by rw [hV]; simp
  have B0 : Below w.heap.size w V := by rw [hV]; exact ((Below.refl _ _).alloc (Nat.le_refl _) _).alloc (by simp) _
  have hbV : Below V.heap.size V W := by rw [hW]; exact (Below.refl _ _).alloc (Nat.le_refl _) _
  have BW := B0.trans (hbV.mono B0.size)
  have TV : Hid (TbVar W (w.heap.size + 1 + 1) (w.heap.size + 1 + 1 + 1) p none 0 0 (zss.take 0) [] (fun _ _ => False)) := by
    have h := TbVar.new V p
    rw [← hW, zV] at h
    exact h
  have b1 : V.heap[w.heap.size + 1]? = some (.cells #[.int .i64 0, .slice none 0 0] 30 (0, 0)) := by
    rw [hV]
    have h := heap_alloc_new (w.alloc (.cells #[.int .i64 p, .slice a n c] 30)) (.cells #[.int .i64 0, .slice none 0 0] 30)
    simpa only [World.size_alloc] using h
  have c1 : W.cell? ⟨w.heap.size, 1, none⟩ = some (.slice a n c) := by rw [hW, hV]; simp [go_sem]
  have q1 := blk_below b1 hbV
  have HA := Hid.mk ha
  have HZ := Hid.mk hz
  have HS := Hid.mk hs
  have hWV : W = ((w.alloc (.cells #[.int .i64 p, .slice a n c] 30)).alloc (.cells #[.int .i64 0, .slice none 0 0] 30)).alloc (.cells #[.int .i64 p, .slice none 0 0] 30) := by rw [hW, hV]
  clear ha hz hs zV b1 hbV hW hV B0
  go_enter Try.func43, Try.ntmps43
  go_upto_region 2 with fail
  rw [← hWV]
  clear hWV
  go_wp2_with fail
  go_loopw [12] (fun i wr => ∃ (k : Nat) (r : Option Addr) (d : Nat) (cells : List Value) (G : Nat → Nat → Prop), k ≤ n ∧ i = .int .i64 k ∧ TbVar wr (w.heap.size + 1 + 1) (w.heap.size + 1 + 1 + 1) p r k d (zss.take k) cells G ∧ Below (w.heap.size + 1 + 1) W wr) (fun i _ => n - (intOf i).toNat)
  case atStart => exact ⟨0, none, 0, [], _, Nat.zero_le _, rfl, TV.out, Below.refl _ _⟩
  case round =>
    clear TV
    obtain ⟨k, r, d, cells, G, hk, rfl, hT, hbw⟩ := hrel
    have zr : w.heap.size + 1 + 1 + 1 ≤ wr.heap.size := by have := hT.size; omega
    have Bw : Below w.heap.size w wr := BW.trans (hbw.mono (by omega))
    have q2 : wr.heap[w.heap.size + 1]? = some (.cells #[.int .i64 0, .slice none 0 0] 30 (0, 0)) := (hbw.block _ (by omega)).trans q1
    by_cases hlt : k < n
    · obtain ⟨b, off, rfl, hc⟩ := AtR.row (AtSl.below HA.out Bw) (by have := HZ.out; omega)
      obtain ⟨z, hy⟩ : ∃ z, zss[k]? = some z := ⟨_, List.getElem?_eq_getElem (by have := HZ.out; omega)⟩
      obtain ⟨a', c', hcx, _, hat, hnil⟩ := hc k z hy
      have hsm := HS.out k z hy
      obtain ⟨m, hm⟩ : ∃ m, z.length = m := ⟨_, rfl⟩
      rw [hm] at hcx hsm
      have hki : (k : Int) < (n : Int) := by omega
      obtain ⟨U, hU⟩ : ∃ U, U = wr.alloc (.cells #[.slice a' m c'] 70) := ⟨_, rfl⟩
      have hbU : Below wr.heap.size wr U := by rw [hU]; exact (Below.refl _ _).alloc (Nat.le_refl _) _
      have zU : wr.heap.size < U.heap.size := by rw [hU]; simp
      have c3 : U.cell? ⟨wr.heap.size, 0, none⟩ = some (.slice a' m c') := by rw [hU]; exact row0 _ _ _
      have HTK : Hid (zss.take (k + 1) = zss.take k ++ [z]) := take_snocS hy
      have HM := Hid.mk hm
      have TU := hT.below hbU
      have t1 := TU.cell1
      have KO : Hid (∀ w', Below U.heap.size U w' → Calls Try.prog 71 #[.agg #[.slice a' m c']] w' fun e w'' => ∃ r d, e = .returned (.agg #[.slice r m d]) ∧ w''.ownsRow w'.heap.size 3 1 (.slice r m d) m (z.map (.int .i64)) ∧ Below w'.heap.size w' w'') :=
        fun w' h => l2OwnRow_any a' m c' z w' hm hsm hnil ((hat.below hbU).below h)
      have hTb : some wr.heap.size ≠ (Value.slice r k d).ownBlock := fun e => by have := (hT.laid.outerF _ e.symm).2; omega
      have HT := Hid.mk hT
      have HB := Hid.mk hbw
      have HBU := Hid.mk hbU
      clear hc hy hm hat hnil hT hbw hbU q2 Bw TU
      go_upto_region 5 with fail
      rw [← hU]
      clear hU hcx
      refine wp_region_held_drew (S := fun w' => w'.cell? ⟨wr.heap.size, 0, none⟩ = some (.slice a' m c')) (by kernel_rfl) ?_ (fun hHeld => ?_)
      · (try dsimp only)
        exact c3
      refine wpAnyH_take (i := 0) (oi := ?_) (v := ?_) ?_ (by kernel_rfl) (by kernel_rfl) (by kernel_rfl) ?_ (Or.inl ⟨?_, ?_⟩) (by assumption) ?_
      rotate_left 2
      · (simp only [List.getElem?_toArray, List.getElem?_cons_zero]; rfl)
      · exact fun _ _ _ h => h
      · rfl
      · (intro wS hSw; (try dsimp only at hSw); go_simp; (try with_reducible rfl))
      (try simp only [Act.put, List.setIfInBounds_toArray, List.set_cons_zero, List.set_cons_succ])
      refine wpAnyH_take (i := 2) (oi := ?_) (v := ?_) ?_ (by kernel_rfl) (by kernel_rfl) (by kernel_rfl) ?_ (Or.inl ⟨?_, ?_⟩) (by assumption) ?_
      rotate_left 2
      · (simp only [List.getElem?_toArray, List.getElem?_cons_zero, List.getElem?_cons_succ]; rfl)
      · exact fun _ _ _ h => h
      · rfl
      · (intro wS hSw; (try dsimp only at hSw); go_simp; (try with_reducible rfl))
      (try simp only [Act.put, List.setIfInBounds_toArray, List.set_cons_zero, List.set_cons_succ])
      refine wpAnyH_ready (rs := [1, 3]) (by kernel_rfl) (by simp) ?_
      refine AllReadyH.cons (o := ?_) ?_ (fun K hK => ?_) ?_
      rotate_left
      · (simp only [List.getElem?_toArray, List.getElem?_cons_zero, List.getElem?_cons_succ]; rfl)
      · go_simp
        (try go_wp2_with fail)
        refine hK.out _ _ ?_ (fun hHeld' => ?_)
        · (try dsimp only)
          exact c3
        clear hK K hHeld
        have hHeld := hHeld'
        clear hHeld'
        (try simp only [Act.put, List.setIfInBounds_toArray, List.set_cons_zero, List.set_cons_succ])
        refine wpAnyH_ready (rs := [3]) (by kernel_rfl) (by simp) ?_
        refine AllReadyH.cons (o := ?_) ?_ (fun K hK => ?_) AllReadyH.nil
        rotate_left
        · (simp only [List.getElem?_toArray, List.getElem?_cons_zero, List.getElem?_cons_succ]; rfl)
        go_simp
        go_at_call 71; refine (KO.out _ (Below.refl _ _).drew).mono ?_; rintro e w2 ⟨r3, d3, rfl, ho3, hb3⟩; have hb2 : Below U.heap.size U w2 := (Below.refl _ _).drew.trans hb3; have e3 := cell_later hb2 c3; have u1 := cell_later hb2 t1
        (try go_wp2_with fail)
        refine hK.out _ _ ?_ (fun hHeld' => ?_)
        · (try dsimp only)
          exact e3
        clear hK K hHeld
        have hHeld := hHeld'
        clear hHeld'
        (try simp only [Act.put, List.setIfInBounds_toArray, List.set_cons_zero, List.set_cons_succ])
        have HBY : Hid (Below wr.heap.size wr w2) := HBU.out.trans (hb2.mono HBU.out.size)
        have T2 := HT.out.below HBY.out
        have HW2 := Hid.mk T2.owns
        have HOI : Hid (RInts.Own w2 (From wr.heap.size w2.heap.size) [.slice r3 m d3] z) := RInts.mono (RInts.of_owns HM.out (by omega) ho3) (fun b h => ⟨by have h1 : U.heap.size ≤ b := h.1; omega, h.2⟩)
        have z2 : w.heap.size + 1 + 1 + 1 ≤ w2.heap.size := by have := hb2.size; omega
        clear T2
        refine wpAnyH_ready (rs := [4]) (by kernel_rfl) (by simp) ?_
        refine AllReadyH.cons (o := ?_) ?_ (fun K hK => ?_) AllReadyH.nil
        rotate_left
        · (simp only [List.getElem?_toArray, List.getElem?_cons_zero, List.getElem?_cons_succ]; rfl)
        go_simp
        skip
        (try go_wp2_with fail)
        refine hK.out _ _ ?_ (fun hHeld' => ?_)
        · (try dsimp only)
          exact cell_later ((Below.refl _ _).alloc (Nat.le_refl _) _) e3
        clear hK K hHeld
        have hHeld := hHeld'
        clear hHeld'
        (try simp only [Act.put, List.setIfInBounds_toArray, List.set_cons_zero, List.set_cons_succ])
        refine wpAnyH_ready (rs := [5]) (by kernel_rfl) (by simp) ?_
        refine AllReadyH.cons (o := ?_) ?_ (fun K hK => ?_) AllReadyH.nil
        rotate_left
        · (simp only [List.getElem?_toArray, List.getElem?_cons_zero, List.getElem?_cons_succ]; rfl)
        refine step_append_vals rfl (.tmp 17) (.tmp 20) 28 rfl (w.heap.size + 1 + 1 + 1) 70 k0 (.agg #[.slice none 0 0]) 1 24 Try.underlying28 hk0 hx0 hx1 hx2 rfl (by decide) (.slice r k d) k cells (by simp [Act.eval]) (HW2.out.alloc _) (some ⟨w2.heap.size, 0, none⟩) 1 1 [.slice r3 m d3] (by simp [Act.eval]) rfl (fun ad he => by cases he; simpa using news_at w2 #[.slice r3 m d3] 70) (by simp; rfl) (fun h => by cases h) (by unfold maxLen; omega) (by omega) (by simp; omega) ?_; intro r4 d4 w6 ho4 hg4 ht4; have x1 := (HT.out.at6 HBY.out hg4).1; have x2 := (HT.out.at6 HBY.out hg4).2; have bq := hg4.cell (v := .slice a' m c') (a := ⟨wr.heap.size, 0, none⟩) (cell_later ((Below.refl _ _).alloc (Nat.le_refl _) _) e3) hTb
        refine hK.out _ _ ?_ (fun hHeld' => ?_)
        · (try dsimp only)
          exact bq
        clear hK K hHeld
        have hHeld := hHeld'
        clear hHeld'
        (try simp only [Act.put, List.setIfInBounds_toArray, List.set_cons_zero, List.set_cons_succ])
        refine wpAnyH_take (i := 6) (oi := ?_) (v := ?_) ?_ (by kernel_rfl) (by kernel_rfl) (by kernel_rfl) ?_ (Or.inl ⟨?_, ?_⟩) (by assumption) ?_
        rotate_left 2
        · (simp only [List.getElem?_toArray, List.getElem?_cons_zero, List.getElem?_cons_succ]; rfl)
        · exact fun _ _ _ h => h
        · rfl
        · (intro wS hSw; (try dsimp only at hSw); go_simp; (try with_reducible rfl))
        (try simp only [Act.put, List.setIfInBounds_toArray, List.set_cons_zero, List.set_cons_succ])
        refine wpAnyH_ready (rs := [7]) (by kernel_rfl) (by simp) ?_
        refine AllReadyH.cons (o := ?_) ?_ (fun K hK => ?_) AllReadyH.nil
        rotate_left
        · (simp only [List.getElem?_toArray, List.getElem?_cons_zero, List.getElem?_cons_succ]; rfl)
        go_simp
        skip
        (try go_wp2_with fail)
        refine hK.out _ _ ?_ (fun hHeld' => ?_)
        · (try dsimp only)
          exact keep_far bq (by omega)
        clear hK K hHeld
        have hHeld := hHeld'
        clear hHeld'
        (try simp only [Act.put, List.setIfInBounds_toArray, List.set_cons_zero, List.set_cons_succ])
        refine wpAnyH_done (by kernel_rfl) ?_ _
        obtain ⟨G', hT'⟩ := HT.out.pushed zr HBY.out HOI.out ho4 hg4 ht4 (by omega)
        have hB' := HT.out.pushed_below (B := w.heap.size + 1 + 1) (Nat.le_refl _) zr HB.out HBY.out hg4 (.slice r4 (k + 1) d4)
        rw [← HTK.out] at hT'
        have HT' := Hid.mk hT'
        have HB' := Hid.mk hB'
        clear hT' hB' ho4 hg4 ht4 x1 x2 HT HBY HOI HW2 HB bq e3 u1 ho3 hb2 hb3 t1 c3 hHeld
        go_wp2
        go_roundw
        case rel => exact ⟨k + 1, r4, d4, _, G', by omega, by go_num, HT'.out, HB'.out⟩
        case measure => simp [intOf]; omega
      refine AllReadyH.cons (o := ?_) ?_ (fun K hK => ?_) AllReadyH.nil
      rotate_left
      · (simp only [List.getElem?_toArray, List.getElem?_cons_zero, List.getElem?_cons_succ]; rfl)
      · go_simp
        go_at_call 71; refine (KO.out _ (Below.refl _ _).drew).mono ?_; rintro e w2 ⟨r3, d3, rfl, ho3, hb3⟩; have hb2 : Below U.heap.size U w2 := (Below.refl _ _).drew.trans hb3; have e3 := cell_later hb2 c3; have u1 := cell_later hb2 t1
        (try go_wp2_with fail)
        refine hK.out _ _ ?_ (fun hHeld' => ?_)
        · (try dsimp only)
          exact e3
        clear hK K hHeld
        have hHeld := hHeld'
        clear hHeld'
        (try simp only [Act.put, List.setIfInBounds_toArray, List.set_cons_zero, List.set_cons_succ])
        have HBY : Hid (Below wr.heap.size wr w2) := HBU.out.trans (hb2.mono HBU.out.size)
        have T2 := HT.out.below HBY.out
        have HW2 := Hid.mk T2.owns
        have HOI : Hid (RInts.Own w2 (From wr.heap.size w2.heap.size) [.slice r3 m d3] z) := RInts.mono (RInts.of_owns HM.out (by omega) ho3) (fun b h => ⟨by have h1 : U.heap.size ≤ b := h.1; omega, h.2⟩)
        have z2 : w.heap.size + 1 + 1 + 1 ≤ w2.heap.size := by have := hb2.size; omega
        clear T2
        refine wpAnyH_ready (rs := [1, 4]) (by kernel_rfl) (by simp) ?_
        refine AllReadyH.cons (o := ?_) ?_ (fun K hK => ?_) ?_
        rotate_left
        · (simp only [List.getElem?_toArray, List.getElem?_cons_zero, List.getElem?_cons_succ]; rfl)
        · go_simp
          (try go_wp2_with fail)
          refine hK.out _ _ ?_ (fun hHeld' => ?_)
          · (try dsimp only)
            exact e3
          clear hK K hHeld
          have hHeld := hHeld'
          clear hHeld'
          (try simp only [Act.put, List.setIfInBounds_toArray, List.set_cons_zero, List.set_cons_succ])
          refine wpAnyH_ready (rs := [4]) (by kernel_rfl) (by simp) ?_
          refine AllReadyH.cons (o := ?_) ?_ (fun K hK => ?_) AllReadyH.nil
          rotate_left
          · (simp only [List.getElem?_toArray, List.getElem?_cons_zero, List.getElem?_cons_succ]; rfl)
          go_simp
          skip
          (try go_wp2_with fail)
          refine hK.out _ _ ?_ (fun hHeld' => ?_)
          · (try dsimp only)
            exact cell_later ((Below.refl _ _).alloc (Nat.le_refl _) _) e3
          clear hK K hHeld
          have hHeld := hHeld'
          clear hHeld'
          (try simp only [Act.put, List.setIfInBounds_toArray, List.set_cons_zero, List.set_cons_succ])
          refine wpAnyH_ready (rs := [5]) (by kernel_rfl) (by simp) ?_
          refine AllReadyH.cons (o := ?_) ?_ (fun K hK => ?_) AllReadyH.nil
          rotate_left
          · (simp only [List.getElem?_toArray, List.getElem?_cons_zero, List.getElem?_cons_succ]; rfl)
          refine step_append_vals rfl (.tmp 17) (.tmp 20) 28 rfl (w.heap.size + 1 + 1 + 1) 70 k0 (.agg #[.slice none 0 0]) 1 24 Try.underlying28 hk0 hx0 hx1 hx2 rfl (by decide) (.slice r k d) k cells (by simp [Act.eval]) (HW2.out.alloc _) (some ⟨w2.heap.size, 0, none⟩) 1 1 [.slice r3 m d3] (by simp [Act.eval]) rfl (fun ad he => by cases he; simpa using news_at w2 #[.slice r3 m d3] 70) (by simp; rfl) (fun h => by cases h) (by unfold maxLen; omega) (by omega) (by simp; omega) ?_; intro r4 d4 w6 ho4 hg4 ht4; have x1 := (HT.out.at6 HBY.out hg4).1; have x2 := (HT.out.at6 HBY.out hg4).2; have bq := hg4.cell (v := .slice a' m c') (a := ⟨wr.heap.size, 0, none⟩) (cell_later ((Below.refl _ _).alloc (Nat.le_refl _) _) e3) hTb
          refine hK.out _ _ ?_ (fun hHeld' => ?_)
          · (try dsimp only)
            exact bq
          clear hK K hHeld
          have hHeld := hHeld'
          clear hHeld'
          (try simp only [Act.put, List.setIfInBounds_toArray, List.set_cons_zero, List.set_cons_succ])
          refine wpAnyH_take (i := 6) (oi := ?_) (v := ?_) ?_ (by kernel_rfl) (by kernel_rfl) (by kernel_rfl) ?_ (Or.inl ⟨?_, ?_⟩) (by assumption) ?_
          rotate_left 2
          · (simp only [List.getElem?_toArray, List.getElem?_cons_zero, List.getElem?_cons_succ]; rfl)
          · exact fun _ _ _ h => h
          · rfl
          · (intro wS hSw; (try dsimp only at hSw); go_simp; (try with_reducible rfl))
          (try simp only [Act.put, List.setIfInBounds_toArray, List.set_cons_zero, List.set_cons_succ])
          refine wpAnyH_ready (rs := [7]) (by kernel_rfl) (by simp) ?_
          refine AllReadyH.cons (o := ?_) ?_ (fun K hK => ?_) AllReadyH.nil
          rotate_left
          · (simp only [List.getElem?_toArray, List.getElem?_cons_zero, List.getElem?_cons_succ]; rfl)
          go_simp
          skip
          (try go_wp2_with fail)
          refine hK.out _ _ ?_ (fun hHeld' => ?_)
          · (try dsimp only)
            exact keep_far bq (by omega)
          clear hK K hHeld
          have hHeld := hHeld'
          clear hHeld'
          (try simp only [Act.put, List.setIfInBounds_toArray, List.set_cons_zero, List.set_cons_succ])
          refine wpAnyH_done (by kernel_rfl) ?_ _
          obtain ⟨G', hT'⟩ := HT.out.pushed zr HBY.out HOI.out ho4 hg4 ht4 (by omega)
          have hB' := HT.out.pushed_below (B := w.heap.size + 1 + 1) (Nat.le_refl _) zr HB.out HBY.out hg4 (.slice r4 (k + 1) d4)
          rw [← HTK.out] at hT'
          have HT' := Hid.mk hT'
          have HB' := Hid.mk hB'
          clear hT' hB' ho4 hg4 ht4 x1 x2 HT HBY HOI HW2 HB bq e3 u1 ho3 hb2 hb3 t1 c3 hHeld
          go_wp2
          go_roundw
          case rel => exact ⟨k + 1, r4, d4, _, G', by omega, by go_num, HT'.out, HB'.out⟩
          case measure => simp [intOf]; omega
        refine AllReadyH.cons (o := ?_) ?_ (fun K hK => ?_) AllReadyH.nil
        rotate_left
        · (simp only [List.getElem?_toArray, List.getElem?_cons_zero, List.getElem?_cons_succ]; rfl)
        · go_simp
          (try go_wp2_with fail)
          refine hK.out _ _ ?_ (fun hHeld' => ?_)
          · (try dsimp only)
            exact cell_later ((Below.refl _ _).alloc (Nat.le_refl _) _) e3
          clear hK K hHeld
          have hHeld := hHeld'
          clear hHeld'
          (try simp only [Act.put, List.setIfInBounds_toArray, List.set_cons_zero, List.set_cons_succ])
          have u2 := cell_later ((Below.refl _ _).alloc (Nat.le_refl _) (.cells #[.slice r3 m d3] 70)) u1
          refine wpAnyH_ready (rs := [1]) (by kernel_rfl) (by simp) ?_
          refine AllReadyH.cons (o := ?_) ?_ (fun K hK => ?_) AllReadyH.nil
          rotate_left
          · (simp only [List.getElem?_toArray, List.getElem?_cons_zero, List.getElem?_cons_succ]; rfl)
          go_simp
          skip
          (try go_wp2_with fail)
          refine hK.out _ _ ?_ (fun hHeld' => ?_)
          · (try dsimp only)
            exact cell_later ((Below.refl _ _).alloc (Nat.le_refl _) _) e3
          clear hK K hHeld
          have hHeld := hHeld'
          clear hHeld'
          (try simp only [Act.put, List.setIfInBounds_toArray, List.set_cons_zero, List.set_cons_succ])
          refine wpAnyH_ready (rs := [5]) (by kernel_rfl) (by simp) ?_
          refine AllReadyH.cons (o := ?_) ?_ (fun K hK => ?_) AllReadyH.nil
          rotate_left
          · (simp only [List.getElem?_toArray, List.getElem?_cons_zero, List.getElem?_cons_succ]; rfl)
          refine step_append_vals rfl (.tmp 17) (.tmp 20) 28 rfl (w.heap.size + 1 + 1 + 1) 70 k0 (.agg #[.slice none 0 0]) 1 24 Try.underlying28 hk0 hx0 hx1 hx2 rfl (by decide) (.slice r k d) k cells (by simp [Act.eval]) (HW2.out.alloc _) (some ⟨w2.heap.size, 0, none⟩) 1 1 [.slice r3 m d3] (by simp [Act.eval]) rfl (fun ad he => by cases he; simpa using news_at w2 #[.slice r3 m d3] 70) (by simp; rfl) (fun h => by cases h) (by unfold maxLen; omega) (by omega) (by simp; omega) ?_; intro r4 d4 w6 ho4 hg4 ht4; have x1 := (HT.out.at6 HBY.out hg4).1; have x2 := (HT.out.at6 HBY.out hg4).2; have bq := hg4.cell (v := .slice a' m c') (a := ⟨wr.heap.size, 0, none⟩) (cell_later ((Below.refl _ _).alloc (Nat.le_refl _) _) e3) hTb
          refine hK.out _ _ ?_ (fun hHeld' => ?_)
          · (try dsimp only)
            exact bq
          clear hK K hHeld
          have hHeld := hHeld'
          clear hHeld'
          (try simp only [Act.put, List.setIfInBounds_toArray, List.set_cons_zero, List.set_cons_succ])
          refine wpAnyH_take (i := 6) (oi := ?_) (v := ?_) ?_ (by kernel_rfl) (by kernel_rfl) (by kernel_rfl) ?_ (Or.inl ⟨?_, ?_⟩) (by assumption) ?_
          rotate_left 2
          · (simp only [List.getElem?_toArray, List.getElem?_cons_zero, List.getElem?_cons_succ]; rfl)
          · exact fun _ _ _ h => h
          · rfl
          · (intro wS hSw; (try dsimp only at hSw); go_simp; (try with_reducible rfl))
          (try simp only [Act.put, List.setIfInBounds_toArray, List.set_cons_zero, List.set_cons_succ])
          refine wpAnyH_ready (rs := [7]) (by kernel_rfl) (by simp) ?_
          refine AllReadyH.cons (o := ?_) ?_ (fun K hK => ?_) AllReadyH.nil
          rotate_left
          · (simp only [List.getElem?_toArray, List.getElem?_cons_zero, List.getElem?_cons_succ]; rfl)
          go_simp
          skip
          (try go_wp2_with fail)
          refine hK.out _ _ ?_ (fun hHeld' => ?_)
          · (try dsimp only)
            exact keep_far bq (by omega)
          clear hK K hHeld
          have hHeld := hHeld'
          clear hHeld'
          (try simp only [Act.put, List.setIfInBounds_toArray, List.set_cons_zero, List.set_cons_succ])
          refine wpAnyH_done (by kernel_rfl) ?_ _
          obtain ⟨G', hT'⟩ := HT.out.pushed zr HBY.out HOI.out ho4 hg4 ht4 (by omega)
          have hB' := HT.out.pushed_below (B := w.heap.size + 1 + 1) (Nat.le_refl _) zr HB.out HBY.out hg4 (.slice r4 (k + 1) d4)
          rw [← HTK.out] at hT'
          have HT' := Hid.mk hT'
          have HB' := Hid.mk hB'
          clear hT' hB' ho4 hg4 ht4 x1 x2 HT HBY HOI HW2 HB bq e3 u1 ho3 hb2 hb3 t1 c3 hHeld
          go_wp2
          go_roundw
          case rel => exact ⟨k + 1, r4, d4, _, G', by omega, by go_num, HT'.out, HB'.out⟩
          case measure => simp [intOf]; omega
    · obtain rfl : k = n := by omega
      have HTA : Hid (zss.take k = zss) := List.take_of_length_le (by have := HZ.out; omega)
      rw [HTA.out] at hT
      have g0 := hT.cell0
      have g1 := hT.cell1
      have e0 := blk_cell q2 0 (v := .int .i64 0) rfl
      have e1 := blk_cell q2 1 (v := .slice none 0 0) rfl
      have f0 := blk_frozen q2 0
      have f1 := blk_frozen q2 1
      have HO := Hid.mk (hT.own)
      clear hT hbw q2 q1
      go_wp2
      refine bodyPost_ret (v := .agg #[.int .i64 p, .slice r k d]) (by simp [results, Try.results43, go_sem, e0, e1]) rfl ⟨r, d, rfl, ?_, ?_⟩
      · refine RRows.mono (RRows.ownOff (RRows.ownOff HO.out (Off.set (F := From 0 (w.heap.size + 1 + 1)) (a := ⟨w.heap.size + 1, 0, none⟩) ⟨by simp, by simp⟩ _) (fun b h h' => by have := h.1; have := h'.2; omega)) (Off.set (F := From 0 (w.heap.size + 1 + 1)) (a := ⟨w.heap.size + 1, 1, none⟩) ⟨by simp, by simp⟩ _) (fun b h h' => by have := h.1; have := h'.2; omega)) (fun b h => ⟨by have := h.1; omega, by have := h.2; simp only [World.setCell, Array.size_modify]; exact this⟩)
      · exact (Bw.setCell (by simp) _).setCell (by simp) _

end Go.Proofs.Ythliamoeplgblaa
