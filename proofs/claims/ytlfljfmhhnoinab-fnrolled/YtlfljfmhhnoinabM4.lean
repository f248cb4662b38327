/- Several texts of one proof, in build order: CurR, CurC. -/
import Derived.Test.YtlfljfmhhnoinabM3
import Derived.Deep.AppendLies

/- What the model's cursor draws: row. -/
namespace Go.Proofs.Ytlfljfmhhnoinab
open Go.RowKit

theorem RowVar2.cur {w w' : World} {R C : Nat} {t : TypeId} {base : Nat} {e : TypeId} {a : Option Addr} {n c : Nat} {zs : List Int} (h : RowVar2 w R t base e a n c zs) (hg : w.grownBy w' (some C)) (hC : C < base) (hR : C ≠ R) : RowVar2 w' R t base e a n c zs :=
  ⟨h.1, (hg.block R h.lt (fun e => hR (by simpa using e.symm))).trans h.2.1, h.2.2.1.kept hg (.inr (fun e => by have h9 := (h.2.2.1.lt C e).1; omega)), h.2.2.2⟩
theorem RowVar2.pushed_grown {w w1 w0 : World} {R C : Nat} {t : TypeId} {base : Nat} {e : TypeId} {a : Option Addr} {n c : Nat} {zs : List Int} {o : Obj} {v : Value} (h : RowVar2 w R t base e a n c zs)
    (hg : (w.alloc o).grownBy w1 (Value.slice a n c).ownBlock) (hB : w0.grownBy w (some C)) (hR : w0.heap.size ≤ R) (hb : w0.heap.size ≤ base) : w0.grownBy (w1.setCell ⟨R, 0, none⟩ v) (some C) := by
  have hz := hB.size
  refine ⟨hg.os.trans hB.os, hg.tape.trans hB.tape, hg.output.trans hB.output, ?_, fun k hk hn => ?_⟩
  · have := hg.size
    simp only [World.size_alloc] at this
    simp only [World.setCell, Array.size_modify]
    omega
  · rw [Below.heap_setCell w1 _ _ k (by show k ≠ R; omega), hg.block k (by simp; omega) (fun e => by have h9 := (h.2.2.1.lt k e.symm).1; omega), Below.heap_alloc w o k (by omega)]
    exact hB.block k hk hn

/-- What lies below stands: so do the cursor and its bytes. -/
theorem Drw.under {w w' : World} {C B : Nat} {a : Option Addr} {n c M M' : Nat} (h : Drw w C a n c M) (hb : Below B w w') (hC : C < B) (hby : 0 < n → ∀ b off, a = some ⟨b, off, none⟩ → b < B) (hM : M ≤ M') : Drw w' C a n c M' := by
  obtain ⟨h1, h2, h3, k, s, h4, h5, h6⟩ := h
  refine ⟨?_, h2, h3, k, s, (hb.block C hC).trans h4, by omega, h6⟩
  rcases h1 with h1 | ⟨b, off, e, hc⟩
  · exact .inl h1
  · refine .inr ⟨b, off, e, fun i hi => ?_⟩
    obtain ⟨x, k0, k1, k2⟩ := hc i hi
    exact ⟨x, k0, k1, (World.cell?_of_block (hb.block b (hby (by omega) b off e))).trans k2⟩
theorem Drw.bytes {w : World} {C : Nat} {a : Option Addr} {n c M : Nat} (h : Drw w C a n c M) : 0 < n → ∀ b off, a = some ⟨b, off, none⟩ → b < w.heap.size := fun hn b off e => by
  rcases h.1 with h1 | ⟨b', off', e', hc⟩
  · omega
  · rw [e] at e'
    cases e'
    obtain ⟨x, _, _, k⟩ := hc 0 hn
    exact World.block_lt_of_cell? _ _ k

set_option maxRecDepth 100000 in
set_option maxHeartbeats 4000000 in
theorem row_drw (q : Nat) (C : Nat) (a : Option Addr) (n c M : Nat) (w : World) (hq : q ≤ 1000) (hM : M ≤ 700000000) (h : Drw w C a n c M) :
    Calls Try.prog 105 #[.pointer (some ⟨C, 0, none⟩), .int .i64 q] w fun e w' => ∃ (zs : List Int) (r : Option Addr) (d : Nat), zs.length = q ∧ (∀ x ∈ zs, -100001 ≤ x ∧ x ≤ 100001) ∧ e = .returned (.agg #[.slice r q d]) ∧
      w'.ownsRow w.heap.size 3 1 (.slice r q d) q (zs.map (.int .i64)) ∧ Drw w' C a n c (M + 4 * q) ∧ w.grownBy w' (some C) := by
  obtain ⟨i0, hi, hz0, hz1, hz2⟩ := info_parts Try.infoInt
  have hCl := h.lt
  have HBY := Hid.mk h.bytes
  obtain ⟨W, hW⟩ : ∃ W, W = (w.alloc (.cells #[.slice none 0 0] 67)).alloc (.cells #[.slice none 0 0] 67) := ⟨_, rfl⟩
  have B0 : Below w.heap.size w W := by rw [hW]; exact ((Below.refl _ _).alloc (Nat.le_refl _) _).alloc (by simp) _
  have V0 : RowVar2 W (w.heap.size + 1) 67 (w.heap.size + 1 + 1) 3 none 0 0 [] := by
    rw [hW]
    have := RowVar2.new (w := w.alloc (.cells #[.slice none 0 0] 67)) (t := 67) (base := w.heap.size + 1 + 1) (e := 3) (a := none) (n := 0) (c := 0) (zs := []) rfl (World.ownsRow_nil _ _ _ _)
    rwa [World.size_alloc] at this
  have Q0 : W.heap[w.heap.size]? = some (.cells #[.slice none 0 0] 67 (0, 0)) := by
    rw [hW]
    exact (Below.heap_alloc _ _ _ (by simp)).trans (heap_alloc_new w _)
  have D0 := h.below B0
  have G0 : w.grownBy W (some C) := Below.toGrown B0 _
  clear h
  go_enter Try.func105, Try.ntmps105
  go_wp2
  rw [← hW]
  clear hW B0
  go_loopw [1] (fun i wr => ∃ (k m : Nat) (r : Option Addr) (d : Nat) (zs : List Int), k + m = q ∧ i = .int .i64 k ∧ RowVar2 wr (w.heap.size + 1) 67 (w.heap.size + 1 + 1) 3 r m d zs ∧ (∀ x ∈ zs, -100001 ≤ x ∧ x ≤ 100001) ∧ wr.heap[w.heap.size]? = some (.cells #[.slice none 0 0] 67 (0, 0)) ∧ Drw wr C a n c (M + 4 * m) ∧ w.grownBy wr (some C)) (fun i _ => (intOf i).toNat)
  case atStart => exact ⟨q, 0, none, 0, [], by omega, rfl, V0, (fun x hx => nomatch hx), Q0, D0, G0⟩
  case round =>
    clear V0 Q0 D0 G0
    obtain ⟨k, m, r, d, zs, hkm, rfl, hv, hzs, hQ, hD, hG⟩ := hrel
    have v0 := hv.cell
    have vf := hv.frozen
    have zv := hv.lt
    have HZ := Hid.mk hzs
    have HG := Hid.mk hG
    have HD := Hid.mk hD
    clear hzs hG hD
    by_cases hk : 0 < k
    · have hki : (0 : Int) < (k : Int) := by omega
      have HV := Hid.mk hv
      clear hv
      go_wp2_with fail
      refine wp_region_held_drew (S := fun w' => True) (by kernel_rfl) ?_ (fun hHeld => ?_)
      · (try dsimp only)
        all_goals trivial
      refine wpAnyH_take (i := 0) (oi := ?_) (v := ?_) ?_ (by kernel_rfl) (by kernel_rfl) (by kernel_rfl) ?_ (Or.inl ⟨?_, ?_⟩) (by assumption) ?_
      rotate_left 2
      · (simp only [List.getElem?_toArray, List.getElem?_cons_zero]; rfl)
      · exact fun _ _ _ h => h
      · rfl
      · (intro wS hSw; (try dsimp only at hSw); go_simp; (try with_reducible rfl))
      (try simp only [Act.put, List.setIfInBounds_toArray, List.set_cons_zero, List.set_cons_succ])
      refine wpAnyH_take (i := 2) (oi := ?_) (v := ?_) ?_ (by kernel_rfl) (by kernel_rfl) (by kernel_rfl) ?_ (Or.inl ⟨?_, ?_⟩) (by assumption) ?_
      rotate_left 2
      · (simp only [List.getElem?_toArray, List.getElem?_cons_zero, List.getElem?_cons_succ]; rfl)
      · exact fun _ _ _ h => h
      · rfl
      · (intro wS hSw; (try dsimp only at hSw); go_simp; (try with_reducible rfl))
      (try simp only [Act.put, List.setIfInBounds_toArray, List.set_cons_zero, List.set_cons_succ])
      refine wpAnyH_ready (rs := [1, 3]) (by kernel_rfl) (by simp) ?_
      refine AllReadyH.cons (o := ?_) ?_ (fun K hK => ?_) ?_
      rotate_left
      · (simp only [List.getElem?_toArray, List.getElem?_cons_zero, List.getElem?_cons_succ]; rfl)
      · go_simp
        (try go_wp2_with fail)
        refine hK.out _ _ ?_ (fun hHeld' => ?_)
        · (try dsimp only)
          all_goals trivial
        clear hK K hHeld
        have hHeld := hHeld'
        clear hHeld'
        (try simp only [Act.put, List.setIfInBounds_toArray, List.set_cons_zero, List.set_cons_succ])
        refine wpAnyH_ready (rs := [3]) (by kernel_rfl) (by simp) ?_
        refine AllReadyH.cons (o := ?_) ?_ (fun K hK => ?_) AllReadyH.nil
        rotate_left
        · (simp only [List.getElem?_toArray, List.getElem?_cons_zero, List.getElem?_cons_succ]; rfl)
        go_simp
        go_at_call 133; refine (cell_drw C a n c (M + 4 * m) _ (by omega) (HD.out.below (Below.refl _ _).drew)).mono ?_; rintro e w2 ⟨x, hx0, hx1, rfl, hd2, hg2⟩; have hv2 := (HV.out.below (Below.refl _ _).drew).cur hg2 (by omega) (by omega); have s0 := hv2.cell; have HG2 := Hid.mk (grown_trans (grown_below HG.out (Below.refl _ _).drew) hg2); have HQ2 := Hid.mk ((hg2.block w.heap.size (by simp only [drew_size]; omega) (by simp; omega)).trans (((Below.refl wr.heap.size wr).drew.block w.heap.size (by omega)).trans hQ)); have z2 := hg2.size; simp only [drew_size] at z2
        (try go_wp2_with fail)
        refine hK.out _ _ ?_ (fun hHeld' => ?_)
        · (try dsimp only)
          all_goals trivial
        clear hK K hHeld
        have hHeld := hHeld'
        clear hHeld'
        (try simp only [Act.put, List.setIfInBounds_toArray, List.set_cons_zero, List.set_cons_succ])
        refine wpAnyH_ready (rs := [4]) (by kernel_rfl) (by simp) ?_
        refine AllReadyH.cons (o := ?_) ?_ (fun K hK => ?_) AllReadyH.nil
        rotate_left
        · (simp only [List.getElem?_toArray, List.getElem?_cons_zero, List.getElem?_cons_succ]; rfl)
        go_simp
        skip
        (try go_wp2_with fail)
        refine hK.out _ _ ?_ (fun hHeld' => ?_)
        · (try dsimp only)
          all_goals trivial
        clear hK K hHeld
        have hHeld := hHeld'
        clear hHeld'
        (try simp only [Act.put, List.setIfInBounds_toArray, List.set_cons_zero, List.set_cons_succ])
        refine wpAnyH_ready (rs := [5]) (by kernel_rfl) (by simp) ?_
        refine AllReadyH.cons (o := ?_) ?_ (fun K hK => ?_) AllReadyH.nil
        rotate_left
        · (simp only [List.getElem?_toArray, List.getElem?_cons_zero, List.getElem?_cons_succ]; rfl)
        refine step_append_lies _ rfl (.tmp 12) (.tmp 15) 25 rfl (w.heap.size + 1 + 1) 3 i0 (.int .i64 0) 1 8 Try.underlying25 hi hz0 hz1 hz2 rfl (by decide) (.slice r m d) m (zs.map (.int .i64)) (by simp [Act.eval]) (hv2.own.alloc _) ⟨w2.heap.size, 0, none⟩ 1 1 [.int .i64 x] (by simp [Act.eval]) rfl (by simpa using news_at w2 #[.int .i64 x] 3) (by intro u hu; simp at hu; rw [hu]; rfl) (by decide) (by unfold maxLen; omega) (by omega) (by simp; omega) (w2.heap.size + 1) (by simp) ?_; intro g4 cap4 w4 hown4 hgrow4 hat4 hlt4; obtain ⟨s1, s2, hv4⟩ := hv2.pushed hown4 hgrow4 hat4
        refine hK.out _ _ ?_ (fun hHeld' => ?_)
        · (try dsimp only)
          all_goals trivial
        clear hK K hHeld
        have hHeld := hHeld'
        clear hHeld'
        (try simp only [Act.put, List.setIfInBounds_toArray, List.set_cons_zero, List.set_cons_succ])
        refine wpAnyH_take (i := 6) (oi := ?_) (v := ?_) ?_ (by kernel_rfl) (by kernel_rfl) (by kernel_rfl) ?_ (Or.inl ⟨?_, ?_⟩) (by assumption) ?_
        rotate_left 2
        · (simp only [List.getElem?_toArray, List.getElem?_cons_zero, List.getElem?_cons_succ]; rfl)
        · exact fun _ _ _ h => h
        · rfl
        · (intro wS hSw; (try dsimp only at hSw); go_simp; (try with_reducible rfl))
        (try simp only [Act.put, List.setIfInBounds_toArray, List.set_cons_zero, List.set_cons_succ])
        refine wpAnyH_ready (rs := [7]) (by kernel_rfl) (by simp) ?_
        refine AllReadyH.cons (o := ?_) ?_ (fun K hK => ?_) AllReadyH.nil
        rotate_left
        · (simp only [List.getElem?_toArray, List.getElem?_cons_zero, List.getElem?_cons_succ]; rfl)
        go_simp
        skip
        (try go_wp2_with fail)
        refine hK.out _ _ ?_ (fun hHeld' => ?_)
        · (try dsimp only)
          all_goals trivial
        clear hK K hHeld
        have hHeld := hHeld'
        clear hHeld'
        (try simp only [Act.put, List.setIfInBounds_toArray, List.set_cons_zero, List.set_cons_succ])
        refine wpAnyH_done (by kernel_rfl) ?_ _
        have HV4 := Hid.mk hv4
        have hl4 := hgrow4.size
        simp only [World.size_alloc] at hl4
        have HD4 : Hid (Drw (w4.setCell ⟨w.heap.size + 1, 0, none⟩ (.slice (some ⟨g4, 0, none⟩) (m + 1) cap4)) C a n c (M + 4 * (m + 1))) := hd2.under (hv2.pushed_below hgrow4 (Below.refl w.heap.size w2) (by omega) (by omega)) hCl HBY.out (by omega)
        have HQ4 : Hid ((w4.setCell ⟨w.heap.size + 1, 0, none⟩ (.slice (some ⟨g4, 0, none⟩) (m + 1) cap4)).heap[w.heap.size]? = some (.cells #[.slice none 0 0] 67 (0, 0))) := by
          show _ = _
          rw [Below.heap_setCell w4 _ _ w.heap.size (by show w.heap.size ≠ w.heap.size + 1; omega), hgrow4.block w.heap.size (by simp; omega) (fun e => by have h9 := (hv2.own.lt _ e.symm).1; omega), Below.heap_alloc w2 _ w.heap.size (by omega)]
          exact HQ2.out
        have HG4 : Hid (w.grownBy (w4.setCell ⟨w.heap.size + 1, 0, none⟩ (.slice (some ⟨g4, 0, none⟩) (m + 1) cap4)) (some C)) := hv2.pushed_grown hgrow4 HG2.out (by omega) (by omega)
        have HZ4 : Hid (∀ x' ∈ zs ++ [x], -100001 ≤ x' ∧ x' ≤ 100001) := fun x' hx' => by
          rcases List.mem_append.1 hx' with h' | h'
          · exact HZ.out x' h'
          · simp at h'; subst h'; exact ⟨hx0, hx1⟩
        clear hv4 hown4 hgrow4 hat4 hlt4 s1 s2 s0 hHeld hv2 hd2 hg2 HQ2 HG2 v0 vf hQ z2
        go_wp2
        go_roundw
        case rel => exact ⟨k - 1, m + 1, _, _, _, by omega, by go_num, HV4.out, HZ4.out, HQ4.out, HD4.out, HG4.out⟩
        case measure => simp [intOf]; omega
      refine AllReadyH.cons (o := ?_) ?_ (fun K hK => ?_) AllReadyH.nil
      rotate_left
      · (simp only [List.getElem?_toArray, List.getElem?_cons_zero, List.getElem?_cons_succ]; rfl)
      · go_simp
        go_at_call 133; refine (cell_drw C a n c (M + 4 * m) _ (by omega) (HD.out.below (Below.refl _ _).drew)).mono ?_; rintro e w2 ⟨x, hx0, hx1, rfl, hd2, hg2⟩; have hv2 := (HV.out.below (Below.refl _ _).drew).cur hg2 (by omega) (by omega); have s0 := hv2.cell; have HG2 := Hid.mk (grown_trans (grown_below HG.out (Below.refl _ _).drew) hg2); have HQ2 := Hid.mk ((hg2.block w.heap.size (by simp only [drew_size]; omega) (by simp; omega)).trans (((Below.refl wr.heap.size wr).drew.block w.heap.size (by omega)).trans hQ)); have z2 := hg2.size; simp only [drew_size] at z2
        (try go_wp2_with fail)
        refine hK.out _ _ ?_ (fun hHeld' => ?_)
        · (try dsimp only)
          all_goals trivial
        clear hK K hHeld
        have hHeld := hHeld'
        clear hHeld'
        (try simp only [Act.put, List.setIfInBounds_toArray, List.set_cons_zero, List.set_cons_succ])
        refine wpAnyH_ready (rs := [1, 4]) (by kernel_rfl) (by simp) ?_
        refine AllReadyH.cons (o := ?_) ?_ (fun K hK => ?_) ?_
        rotate_left
        · (simp only [List.getElem?_toArray, List.getElem?_cons_zero, List.getElem?_cons_succ]; rfl)
        · go_simp
          (try go_wp2_with fail)
          refine hK.out _ _ ?_ (fun hHeld' => ?_)
          · (try dsimp only)
            all_goals trivial
          clear hK K hHeld
          have hHeld := hHeld'
          clear hHeld'
          (try simp only [Act.put, List.setIfInBounds_toArray, List.set_cons_zero, List.set_cons_succ])
          refine wpAnyH_ready (rs := [4]) (by kernel_rfl) (by simp) ?_
          refine AllReadyH.cons (o := ?_) ?_ (fun K hK => ?_) AllReadyH.nil
          rotate_left
          · (simp only [List.getElem?_toArray, List.getElem?_cons_zero, List.getElem?_cons_succ]; rfl)
          go_simp
          skip
          (try go_wp2_with fail)
          refine hK.out _ _ ?_ (fun hHeld' => ?_)
          · (try dsimp only)
            all_goals trivial
          clear hK K hHeld
          have hHeld := hHeld'
          clear hHeld'
          (try simp only [Act.put, List.setIfInBounds_toArray, List.set_cons_zero, List.set_cons_succ])
          refine wpAnyH_ready (rs := [5]) (by kernel_rfl) (by simp) ?_
          refine AllReadyH.cons (o := ?_) ?_ (fun K hK => ?_) AllReadyH.nil
          rotate_left
          · (simp only [List.getElem?_toArray, List.getElem?_cons_zero, List.getElem?_cons_succ]; rfl)
          refine step_append_lies _ rfl (.tmp 12) (.tmp 15) 25 rfl (w.heap.size + 1 + 1) 3 i0 (.int .i64 0) 1 8 Try.underlying25 hi hz0 hz1 hz2 rfl (by decide) (.slice r m d) m (zs.map (.int .i64)) (by simp [Act.eval]) (hv2.own.alloc _) ⟨w2.heap.size, 0, none⟩ 1 1 [.int .i64 x] (by simp [Act.eval]) rfl (by simpa using news_at w2 #[.int .i64 x] 3) (by intro u hu; simp at hu; rw [hu]; rfl) (by decide) (by unfold maxLen; omega) (by omega) (by simp; omega) (w2.heap.size + 1) (by simp) ?_; intro g4 cap4 w4 hown4 hgrow4 hat4 hlt4; obtain ⟨s1, s2, hv4⟩ := hv2.pushed hown4 hgrow4 hat4
          refine hK.out _ _ ?_ (fun hHeld' => ?_)
          · (try dsimp only)
            all_goals trivial
          clear hK K hHeld
          have hHeld := hHeld'
          clear hHeld'
          (try simp only [Act.put, List.setIfInBounds_toArray, List.set_cons_zero, List.set_cons_succ])
          refine wpAnyH_take (i := 6) (oi := ?_) (v := ?_) ?_ (by kernel_rfl) (by kernel_rfl) (by kernel_rfl) ?_ (Or.inl ⟨?_, ?_⟩) (by assumption) ?_
          rotate_left 2
          · (simp only [List.getElem?_toArray, List.getElem?_cons_zero, List.getElem?_cons_succ]; rfl)
          · exact fun _ _ _ h => h
          · rfl
          · (intro wS hSw; (try dsimp only at hSw); go_simp; (try with_reducible rfl))
          (try simp only [Act.put, List.setIfInBounds_toArray, List.set_cons_zero, List.set_cons_succ])
          refine wpAnyH_ready (rs := [7]) (by kernel_rfl) (by simp) ?_
          refine AllReadyH.cons (o := ?_) ?_ (fun K hK => ?_) AllReadyH.nil
          rotate_left
          · (simp only [List.getElem?_toArray, List.getElem?_cons_zero, List.getElem?_cons_succ]; rfl)
          go_simp
          skip
          (try go_wp2_with fail)
          refine hK.out _ _ ?_ (fun hHeld' => ?_)
          · (try dsimp only)
            all_goals trivial
          clear hK K hHeld
          have hHeld := hHeld'
          clear hHeld'
          (try simp only [Act.put, List.setIfInBounds_toArray, List.set_cons_zero, List.set_cons_succ])
          refine wpAnyH_done (by kernel_rfl) ?_ _
          have HV4 := Hid.mk hv4
          have hl4 := hgrow4.size
          simp only [World.size_alloc] at hl4
          have HD4 : Hid (Drw (w4.setCell ⟨w.heap.size + 1, 0, none⟩ (.slice (some ⟨g4, 0, none⟩) (m + 1) cap4)) C a n c (M + 4 * (m + 1))) := hd2.under (hv2.pushed_below hgrow4 (Below.refl w.heap.size w2) (by omega) (by omega)) hCl HBY.out (by omega)
          have HQ4 : Hid ((w4.setCell ⟨w.heap.size + 1, 0, none⟩ (.slice (some ⟨g4, 0, none⟩) (m + 1) cap4)).heap[w.heap.size]? = some (.cells #[.slice none 0 0] 67 (0, 0))) := by
            show _ = _
            rw [Below.heap_setCell w4 _ _ w.heap.size (by show w.heap.size ≠ w.heap.size + 1; omega), hgrow4.block w.heap.size (by simp; omega) (fun e => by have h9 := (hv2.own.lt _ e.symm).1; omega), Below.heap_alloc w2 _ w.heap.size (by omega)]
            exact HQ2.out
          have HG4 : Hid (w.grownBy (w4.setCell ⟨w.heap.size + 1, 0, none⟩ (.slice (some ⟨g4, 0, none⟩) (m + 1) cap4)) (some C)) := hv2.pushed_grown hgrow4 HG2.out (by omega) (by omega)
          have HZ4 : Hid (∀ x' ∈ zs ++ [x], -100001 ≤ x' ∧ x' ≤ 100001) := fun x' hx' => by
            rcases List.mem_append.1 hx' with h' | h'
            · exact HZ.out x' h'
            · simp at h'; subst h'; exact ⟨hx0, hx1⟩
          clear hv4 hown4 hgrow4 hat4 hlt4 s1 s2 s0 hHeld hv2 hd2 hg2 HQ2 HG2 v0 vf hQ z2
          go_wp2
          go_roundw
          case rel => exact ⟨k - 1, m + 1, _, _, _, by omega, by go_num, HV4.out, HZ4.out, HQ4.out, HD4.out, HG4.out⟩
          case measure => simp [intOf]; omega
        refine AllReadyH.cons (o := ?_) ?_ (fun K hK => ?_) AllReadyH.nil
        rotate_left
        · (simp only [List.getElem?_toArray, List.getElem?_cons_zero, List.getElem?_cons_succ]; rfl)
        · go_simp
          (try go_wp2_with fail)
          refine hK.out _ _ ?_ (fun hHeld' => ?_)
          · (try dsimp only)
            all_goals trivial
          clear hK K hHeld
          have hHeld := hHeld'
          clear hHeld'
          (try simp only [Act.put, List.setIfInBounds_toArray, List.set_cons_zero, List.set_cons_succ])
          have u2 := cell_later ((Below.refl _ _).alloc (Nat.le_refl _) (.cells #[.int .i64 x] 3)) s0
          refine wpAnyH_ready (rs := [1]) (by kernel_rfl) (by simp) ?_
          refine AllReadyH.cons (o := ?_) ?_ (fun K hK => ?_) AllReadyH.nil
          rotate_left
          · (simp only [List.getElem?_toArray, List.getElem?_cons_zero, List.getElem?_cons_succ]; rfl)
          go_simp
          skip
          (try go_wp2_with fail)
          refine hK.out _ _ ?_ (fun hHeld' => ?_)
          · (try dsimp only)
            all_goals trivial
          clear hK K hHeld
          have hHeld := hHeld'
          clear hHeld'
          (try simp only [Act.put, List.setIfInBounds_toArray, List.set_cons_zero, List.set_cons_succ])
          clear u2
          refine wpAnyH_ready (rs := [5]) (by kernel_rfl) (by simp) ?_
          refine AllReadyH.cons (o := ?_) ?_ (fun K hK => ?_) AllReadyH.nil
          rotate_left
          · (simp only [List.getElem?_toArray, List.getElem?_cons_zero, List.getElem?_cons_succ]; rfl)
          refine step_append_lies _ rfl (.tmp 12) (.tmp 15) 25 rfl (w.heap.size + 1 + 1) 3 i0 (.int .i64 0) 1 8 Try.underlying25 hi hz0 hz1 hz2 rfl (by decide) (.slice r m d) m (zs.map (.int .i64)) (by simp [Act.eval]) (hv2.own.alloc _) ⟨w2.heap.size, 0, none⟩ 1 1 [.int .i64 x] (by simp [Act.eval]) rfl (by simpa using news_at w2 #[.int .i64 x] 3) (by intro u hu; simp at hu; rw [hu]; rfl) (by decide) (by unfold maxLen; omega) (by omega) (by simp; omega) (w2.heap.size + 1) (by simp) ?_; intro g4 cap4 w4 hown4 hgrow4 hat4 hlt4; obtain ⟨s1, s2, hv4⟩ := hv2.pushed hown4 hgrow4 hat4
          refine hK.out _ _ ?_ (fun hHeld' => ?_)
          · (try dsimp only)
            all_goals trivial
          clear hK K hHeld
          have hHeld := hHeld'
          clear hHeld'
          (try simp only [Act.put, List.setIfInBounds_toArray, List.set_cons_zero, List.set_cons_succ])
          refine wpAnyH_take (i := 6) (oi := ?_) (v := ?_) ?_ (by kernel_rfl) (by kernel_rfl) (by kernel_rfl) ?_ (Or.inl ⟨?_, ?_⟩) (by assumption) ?_
          rotate_left 2
          · (simp only [List.getElem?_toArray, List.getElem?_cons_zero, List.getElem?_cons_succ]; rfl)
          · exact fun _ _ _ h => h
          · rfl
          · (intro wS hSw; (try dsimp only at hSw); go_simp; (try with_reducible rfl))
          (try simp only [Act.put, List.setIfInBounds_toArray, List.set_cons_zero, List.set_cons_succ])
          refine wpAnyH_ready (rs := [7]) (by kernel_rfl) (by simp) ?_
          refine AllReadyH.cons (o := ?_) ?_ (fun K hK => ?_) AllReadyH.nil
          rotate_left
          · (simp only [List.getElem?_toArray, List.getElem?_cons_zero, List.getElem?_cons_succ]; rfl)
          go_simp
          skip
          (try go_wp2_with fail)
          refine hK.out _ _ ?_ (fun hHeld' => ?_)
          · (try dsimp only)
            all_goals trivial
          clear hK K hHeld
          have hHeld := hHeld'
          clear hHeld'
          (try simp only [Act.put, List.setIfInBounds_toArray, List.set_cons_zero, List.set_cons_succ])
          refine wpAnyH_done (by kernel_rfl) ?_ _
          have HV4 := Hid.mk hv4
          have hl4 := hgrow4.size
          simp only [World.size_alloc] at hl4
          have HD4 : Hid (Drw (w4.setCell ⟨w.heap.size + 1, 0, none⟩ (.slice (some ⟨g4, 0, none⟩) (m + 1) cap4)) C a n c (M + 4 * (m + 1))) := hd2.under (hv2.pushed_below hgrow4 (Below.refl w.heap.size w2) (by omega) (by omega)) hCl HBY.out (by omega)
          have HQ4 : Hid ((w4.setCell ⟨w.heap.size + 1, 0, none⟩ (.slice (some ⟨g4, 0, none⟩) (m + 1) cap4)).heap[w.heap.size]? = some (.cells #[.slice none 0 0] 67 (0, 0))) := by
            show _ = _
            rw [Below.heap_setCell w4 _ _ w.heap.size (by show w.heap.size ≠ w.heap.size + 1; omega), hgrow4.block w.heap.size (by simp; omega) (fun e => by have h9 := (hv2.own.lt _ e.symm).1; omega), Below.heap_alloc w2 _ w.heap.size (by omega)]
            exact HQ2.out
          have HG4 : Hid (w.grownBy (w4.setCell ⟨w.heap.size + 1, 0, none⟩ (.slice (some ⟨g4, 0, none⟩) (m + 1) cap4)) (some C)) := hv2.pushed_grown hgrow4 HG2.out (by omega) (by omega)
          have HZ4 : Hid (∀ x' ∈ zs ++ [x], -100001 ≤ x' ∧ x' ≤ 100001) := fun x' hx' => by
            rcases List.mem_append.1 hx' with h' | h'
            · exact HZ.out x' h'
            · simp at h'; subst h'; exact ⟨hx0, hx1⟩
          clear hv4 hown4 hgrow4 hat4 hlt4 s1 s2 s0 hHeld hv2 hd2 hg2 HQ2 HG2 v0 vf hQ z2
          go_wp2
          go_roundw
          case rel => exact ⟨k - 1, m + 1, _, _, _, by omega, by go_num, HV4.out, HZ4.out, HQ4.out, HD4.out, HG4.out⟩
          case measure => simp [intOf]; omega
    · obtain rfl : k = 0 := by omega
      obtain rfl : m = q := by omega
      have e0 : wr.cell? ⟨w.heap.size, 0, none⟩ = some (.slice none 0 0) := by rw [cell_of_row wr _ 0 _ _ (0, 0) hQ]; rfl
      have f0 : wr.frozen? ⟨w.heap.size, 0, none⟩ = false := frozen_of_row wr _ 0 _ _ hQ
      have HV := Hid.mk hv
      clear hv
      go_wp2
      refine bodyPost_ret (v := .agg #[.slice r m d]) (by simp [results, Try.results105, go_sem, e0]) rfl ⟨zs, r, d, HV.out.1, HZ.out, rfl, ?_, ?_, ?_⟩
      · exact owns_mono (ownsRow_setCell_below HV.out.own (by show w.heap.size < _; omega) _) (by omega)
      · exact HD.out.under ((Below.refl w.heap.size wr).setCell (Nat.le_refl _) _) hCl HBY.out (Nat.le_refl _)
      · exact ⟨HG.out.os, HG.out.tape, HG.out.output, by simp only [World.setCell, Array.size_modify]; exact HG.out.size, fun k hk hn => by rw [Below.heap_setCell wr _ _ k (by show k ≠ w.heap.size; omega)]; exact HG.out.block k hk hn⟩

end Go.Proofs.Ytlfljfmhhnoinab

/- What the model's cursor draws: columns, weight. -/
namespace Go.Proofs.Ytlfljfmhhnoinab
open Go.RowKit

theorem grown_own {w w2 w4 : World} {C : Nat} {row : Option Nat} {o : Obj} (hB : w.grownBy w2 (some C)) (hg : (w2.alloc o).grownBy w4 row) (hr : ∀ k, row = some k → w.heap.size ≤ k) : w.grownBy w4 (some C) := by
  have hz := hB.size
  refine ⟨hg.os.trans hB.os, hg.tape.trans hB.tape, hg.output.trans hB.output, ?_, fun k hk hn => ?_⟩
  · have := hg.size
    simp only [World.size_alloc] at this
    omega
  · rw [hg.block k (by simp; omega) (fun e => by have h9 := hr k e.symm; omega), Below.heap_alloc w2 o k (by omega)]
    exact hB.block k hk hn
theorem below_own {w w2 w4 : World} {row : Option Nat} {o : Obj} (hB : w.heap.size ≤ w2.heap.size) (hg : (w2.alloc o).grownBy w4 row) (hr : ∀ k, row = some k → w.heap.size ≤ k) : Below w.heap.size w2 w4 :=
  ((Below.refl w.heap.size w2).alloc hB o).grown hg (by simp; omega) (fun j hj => hr j hj)

set_option maxRecDepth 100000 in
set_option maxHeartbeats 4000000 in
theorem columns_drw (q : Int) (C : Nat) (a : Option Addr) (n c M : Nat) (w : World) (hq0 : -1000 ≤ q) (hq1 : q ≤ 1000) (hM : M ≤ 700000000) (h : Drw w C a n c M) :
    Calls Try.prog 55 #[.pointer (some ⟨C, 0, none⟩), .int .i64 q] w fun e w' => ∃ (zs : List Int) (m : Nat) (r : Option Addr) (d : Nat), zs.length = m ∧ m ≤ 4 ∧ e = .returned (.slice r m d) ∧
      w'.ownsRow w.heap.size 3 1 (.slice r m d) m (zs.map (.int .i64)) ∧ Drw w' C a n c (M + 10) ∧ w.grownBy w' (some C) := by
  obtain ⟨i0, hi, hz0, hz1, hz2⟩ := info_parts Try.infoInt
  have hCl := h.lt
  have HBY := Hid.mk h.bytes
  have H := Hid.mk h
  clear h
  go_enter Try.func55, Try.ntmps55
  go_wp2_with fail
  refine (pick_drw 4 C a n c M w (by omega) H.out (by omega) (by omega)).mono ?_
  rintro e w1 ⟨x, hx0, _, hx1, rfl, hd1, hg1⟩
  obtain ⟨K, rfl⟩ : ∃ K : Nat, x = K := ⟨x.toNat, by omega⟩
  have hK : K ≤ 3 := by omega
  clear hx0 hx1 H
  go_wp2
  go_loopw [5, 6] (fun l i wr => ∃ (k m : Nat) (r : Option Addr) (d : Nat) (zs : List Int), k + m ≤ 3 ∧ l = .slice r m d ∧ i = .int .i64 k ∧ zs.length = m ∧ wr.ownsRow w.heap.size 3 1 (.slice r m d) m (zs.map (.int .i64)) ∧ Drw wr C a n c (M + 2 + 2 * m) ∧ w.grownBy wr (some C)) (fun _ i _ => (intOf i).toNat)
  case atStart => exact ⟨K, 0, none, 0, [], by omega, rfl, rfl, rfl, World.ownsRow_nil _ _ _ _, hd1, hg1⟩
  case round =>
    clear hd1 hg1
    obtain ⟨k, m, r, d, zs, hkm, rfl, rfl, hzl, ho, hD, hG⟩ := hrel
    have HO := Hid.mk ho
    have HD := Hid.mk hD
    have HG := Hid.mk hG
    have HZ := Hid.mk hzl
    clear ho hD hG hzl
    by_cases hgo : 0 < k ∧ 0 < q
    · have hk : (0 : Int) < (k : Int) := by omega
      have hk' : 0 < k := hgo.1
      have hq : 0 < q := hgo.2
      clear hgo
      go_wp2_with fail
      refine (pick_drw q C a n c (M + 2 + 2 * m) wr (by omega) HD.out (by omega) (by omega)).mono ?_
      rintro e w2 ⟨x, hx0, _, hx1, rfl, hd2, hg2⟩
      have HO2 := Hid.mk (HO.out.kept hg2 (.inr (fun e => by have h9 := (HO.out.lt C e).1; omega)))
      have HG2 := Hid.mk (grown_trans HG.out hg2)
      have z2 := HG2.out.size
      clear hg2 HO HG HD
      go_wp2_with (at_builtin; refine wpList_append_lies _ rfl (.tmp 17) (.tmp 21) 25 rfl w.heap.size 3 i0 (.int .i64 0) 1 8 Try.underlying25 hi hz0 hz1 hz2 rfl (by decide) (.slice r m d) m (zs.map (.int .i64)) (by simp [Act.eval]) (HO2.out.alloc _) ⟨w2.heap.size, 0, none⟩ 1 1 [.int .i64 x] (by simp [Act.eval]) rfl (by simpa using news_at w2 #[.int .i64 x] 3) (by intro u hu; simp at hu; rw [hu]; rfl) (by decide) (by unfold maxLen; omega) (by omega) (by simp; omega) (w2.heap.size + 1) (by simp) ?_; intro g4 cap4 w4 hown4 hgrow4 hat4 hlt4; have HO4 := Hid.mk hown4; have HG4 := Hid.mk (grown_own HG2.out hgrow4 (fun k hk => (HO2.out.lt k hk).1)); have HD4 := Hid.mk (hd2.under (below_own z2 hgrow4 (fun k hk => (HO2.out.lt k hk).1)) hCl HBY.out (M' := M + 2 + 2 * (m + 1)) (by omega)); clear hown4 hgrow4 hat4 hlt4 hd2)
      go_roundw
      case rel => exact ⟨k - 1, m + 1, _, _, zs ++ [x], by omega, rfl, by go_num, by simp [HZ.out], by rw [List.map_append]; exact HO4.out, HD4.out, HG4.out⟩
      case measure => simp [intOf]; omega
    · by_cases hk : 0 < k
      · have hk' : (0 : Int) < (k : Int) := by omega
        have hq : ¬ 0 < q := fun h => hgo ⟨hk, h⟩
        clear hgo
        go_wp2_with fail
        refine (one_drw 30 C a n c (M + 2 + 2 * m) wr (by omega) HD.out (by omega) (by omega)).mono ?_
        rintro e w2 ⟨bl, rfl, hd2, hg2⟩
        have HO2 := Hid.mk (HO.out.kept hg2 (.inr (fun e => by have h9 := (HO.out.lt C e).1; omega)))
        have HG2 := Hid.mk (grown_trans HG.out hg2)
        have z2 := HG2.out.size
        have H2 := Hid.mk hd2
        clear hg2 HO HG HD hd2
        cases bl with
        | true =>
          go_wp2_with (at_builtin; refine wpList_append_lies _ rfl (.tmp 25) (.tmp 27) 25 rfl w.heap.size 3 i0 (.int .i64 0) 1 8 Try.underlying25 hi hz0 hz1 hz2 rfl (by decide) (.slice r m d) m (zs.map (.int .i64)) (by simp [Act.eval]) (HO2.out.alloc _) ⟨w2.heap.size, 0, none⟩ 1 1 [.int .i64 q] (by simp [Act.eval]) rfl (by simpa using news_at w2 #[.int .i64 q] 3) (by intro u hu; simp at hu; rw [hu]; rfl) (by decide) (by unfold maxLen; omega) (by omega) (by simp; omega) (w2.heap.size + 1) (by simp) ?_; intro g4 cap4 w4 hown4 hgrow4 hat4 hlt4; have HO4 := Hid.mk hown4; have HG4 := Hid.mk (grown_own HG2.out hgrow4 (fun k hk => (HO2.out.lt k hk).1)); have HD4 := Hid.mk (H2.out.under (below_own z2 hgrow4 (fun k hk => (HO2.out.lt k hk).1)) hCl HBY.out (M' := M + 10) (by omega)); clear hown4 hgrow4 hat4 hlt4)
          go_ret
          exact ⟨zs ++ [q], m + 1, _, _, by simp [HZ.out], by omega, rfl, by rw [List.map_append]; exact HO4.out, HD4.out, HG4.out⟩
        | false =>
          go_wp2
          go_ret
          exact ⟨zs, m, r, d, HZ.out, by omega, rfl, HO2.out, H2.out.mono (by omega), HG2.out⟩
      · obtain rfl : k = 0 := by omega
        clear hgo hk
        go_wp2_with fail
        refine (one_drw 30 C a n c (M + 2 + 2 * m) wr (by omega) HD.out (by omega) (by omega)).mono ?_
        rintro e w2 ⟨bl, rfl, hd2, hg2⟩
        have HO2 := Hid.mk (HO.out.kept hg2 (.inr (fun e => by have h9 := (HO.out.lt C e).1; omega)))
        have HG2 := Hid.mk (grown_trans HG.out hg2)
        have z2 := HG2.out.size
        have H2 := Hid.mk hd2
        clear hg2 HO HG HD hd2
        cases bl with
        | true =>
          go_wp2_with (at_builtin; refine wpList_append_lies _ rfl (.tmp 25) (.tmp 27) 25 rfl w.heap.size 3 i0 (.int .i64 0) 1 8 Try.underlying25 hi hz0 hz1 hz2 rfl (by decide) (.slice r m d) m (zs.map (.int .i64)) (by simp [Act.eval]) (HO2.out.alloc _) ⟨w2.heap.size, 0, none⟩ 1 1 [.int .i64 q] (by simp [Act.eval]) rfl (by simpa using news_at w2 #[.int .i64 q] 3) (by intro u hu; simp at hu; rw [hu]; rfl) (by decide) (by unfold maxLen; omega) (by omega) (by simp; omega) (w2.heap.size + 1) (by simp) ?_; intro g4 cap4 w4 hown4 hgrow4 hat4 hlt4; have HO4 := Hid.mk hown4; have HG4 := Hid.mk (grown_own HG2.out hgrow4 (fun k hk => (HO2.out.lt k hk).1)); have HD4 := Hid.mk (H2.out.under (below_own z2 hgrow4 (fun k hk => (HO2.out.lt k hk).1)) hCl HBY.out (M' := M + 10) (by omega)); clear hown4 hgrow4 hat4 hlt4)
          go_ret
          exact ⟨zs ++ [q], m + 1, _, _, by simp [HZ.out], by omega, rfl, by rw [List.map_append]; exact HO4.out, HD4.out, HG4.out⟩
        | false =>
          go_wp2
          go_ret
          exact ⟨zs, m, r, d, HZ.out, by omega, rfl, HO2.out, H2.out.mono (by omega), HG2.out⟩

set_option maxHeartbeats 1000000 in
theorem weight_drw (C : Nat) (a : Option Addr) (n c M : Nat) (w : World) (hM : M ≤ 800000000) (h : Drw w C a n c M) :
    Calls Try.prog 136 #[.pointer (some ⟨C, 0, none⟩)] w fun e w' => ∃ x : Int, -1000001 ≤ x ∧ x ≤ 1000001 ∧ e = .returned (.int .i64 x) ∧ Drw w' C a n c (M + 4) ∧ w.grownBy w' (some C) := by
  have H := Hid.mk h
  clear h
  go_enter Try.func136, Try.ntmps136
  go_wp2_with fail
  refine (one_drw 40 C a n c M w (by omega) H.out (by omega) (by omega)).mono ?_
  rintro e w1 ⟨bl, rfl, hd1, hg1⟩
  have H1 := Hid.mk hd1
  have G1 := Hid.mk hg1
  have z1 := hd1.lt
  clear hd1 hg1 H
  cases bl with
  | true =>
    obtain ⟨V, hV⟩ : ∃ V, V = w1.alloc (.cells #[.int .i64 0, .int .i64 1000000, .int .i64 (-1000000), .int .i64 1000001] 3) := ⟨_, rfl⟩
    have hbV : Below w1.heap.size w1 V := by rw [hV]; exact (Below.refl _ _).alloc (Nat.le_refl _) _
    have hq : V.heap[w1.heap.size]? = some (.cells #[.int .i64 0, .int .i64 1000000, .int .i64 (-1000000), .int .i64 1000001] 3 (0, 0)) := by rw [hV]; exact heap_alloc_new w1 _
    have HAT : Hid (At V (some ⟨w1.heap.size, 0, none⟩) [0, 1000000, -1000000, 1000001]) := .inr ⟨_, _, rfl, fun i hi => by
      rw [Nat.zero_add, cell_of_row V _ i _ _ (0, 0) hq]
      match i, hi with
      | 0, _ => rfl
      | 1, _ => rfl
      | 2, _ => rfl
      | 3, _ => rfl⟩
    go_wp2_with fail
    rw [← hV]
    clear hV hq
    refine (among_drw _ 4 4 [0, 1000000, -1000000, 1000001] C a n c (M + 2) V (by omega) (H1.out.below hbV) rfl (by omega) (by omega) HAT.out (fun b off e => by cases e; omega)).mono ?_
    rintro e w2 ⟨x, hx, rfl, hd2, hg2⟩
    have H2 := Hid.mk hd2
    have G2 := Hid.mk (grown_trans (grown_below G1.out hbV) hg2)
    have hxx : -1000001 ≤ x ∧ x ≤ 1000001 := by simp at hx; omega
    clear hd2 hg2 H1 G1 hx
    go_wp2
    go_ret
    exact ⟨x, hxx.1, hxx.2, rfl, H2.out, G2.out⟩
  | false =>
    obtain ⟨V, hV⟩ : ∃ V, V = w1.alloc (.cells #[.int .i64 1, .int .i64 1, .int .i64 1, .int .i64 2, .int .i64 (-1), .int .i64 (-1), .int .i64 3] 3) := ⟨_, rfl⟩
    have hbV : Below w1.heap.size w1 V := by rw [hV]; exact (Below.refl _ _).alloc (Nat.le_refl _) _
    have hq : V.heap[w1.heap.size]? = some (.cells #[.int .i64 1, .int .i64 1, .int .i64 1, .int .i64 2, .int .i64 (-1), .int .i64 (-1), .int .i64 3] 3 (0, 0)) := by rw [hV]; exact heap_alloc_new w1 _
    have HAT : Hid (At V (some ⟨w1.heap.size, 0, none⟩) [1, 1, 1, 2, -1, -1, 3]) := .inr ⟨_, _, rfl, fun i hi => by
      rw [Nat.zero_add, cell_of_row V _ i _ _ (0, 0) hq]
      match i, hi with
      | 0, _ => rfl
      | 1, _ => rfl
      | 2, _ => rfl
      | 3, _ => rfl
      | 4, _ => rfl
      | 5, _ => rfl
      | 6, _ => rfl⟩
    go_wp2_with fail
    rw [← hV]
    clear hV hq
    refine (among_drw _ 7 7 [1, 1, 1, 2, -1, -1, 3] C a n c (M + 2) V (by omega) (H1.out.below hbV) rfl (by omega) (by omega) HAT.out (fun b off e => by cases e; omega)).mono ?_
    rintro e w2 ⟨x, hx, rfl, hd2, hg2⟩
    have H2 := Hid.mk hd2
    have G2 := Hid.mk (grown_trans (grown_below G1.out hbV) hg2)
    have hxx : -1000001 ≤ x ∧ x ≤ 1000001 := by simp at hx; omega
    clear hd2 hg2 H1 G1 hx
    go_wp2
    go_ret
    exact ⟨x, hxx.1, hxx.2, rfl, H2.out, G2.out⟩

end Go.Proofs.Ytlfljfmhhnoinab
