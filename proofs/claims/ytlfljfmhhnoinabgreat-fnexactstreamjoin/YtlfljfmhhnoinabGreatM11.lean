/- Several texts of one proof, in build order: L2Tell, TabU, Cnt. -/
import Derived.Test.YtlfljfmhhnoinabGreatM6
import Derived.Test.YtlfljfmhhnoinabGreatM9
import Derived.Test.YtlfljfmhhnoinabGreatM7
import Derived.Test.YtlfljfmhhnoinabGreatM10

/- Contract of spec.l2Tell. -/
namespace Go.Proofs.YtlfljfmhhnoinabGreat
open Go.RowKit

theorem wtake_all' (ts : List WRow) {n : Nat} (h : ts.length = n) : ts.take n = ts := List.take_of_length_le (by omega)

set_option maxRecDepth 100000 in
set_option maxHeartbeats 8000000 in
theorem l2Tell_any (a : Option Addr) (n c : Nat) (ts : List WRow) (p : Int) (w : World) (hz : ts.length = n) (hn : n ≤ 1048576) (hgr : ∀ k, k < n → (wat ts k).1.length ≤ 1048576) (ha : AtM w a ts) :
    Calls Tryz.prog 40 #[.int .i64 p, .slice a n c] w fun e w' => TabRet e w' w.heap.size (goodT p ts) (tellP p ts) (tellT p ts) ∧ Below w.heap.size w w' := by
  obtain ⟨i0, hi, hz0, hz1, hz2⟩ := info_parts Tryz.infoW
  obtain ⟨W, hW⟩ : ∃ W, W = (w.alloc (.cells #[.int .i64 0, .slice none 0 0] 48)).alloc (.cells #[.int .i64 p, .slice none 0 0] 48) := ⟨_, rfl⟩
  have zW : W.heap.size = w.heap.size + 1 + 1 := by rw [hW]; simp
  have B0 : Below w.heap.size w W := by rw [hW]; exact ((Below.refl _ _).alloc (Nat.le_refl _) _).alloc (by simp) _
  have q0 : W.heap[w.heap.size]? = some (.cells #[.int .i64 0, .slice none 0 0] 48 (0, 0)) := by
    rw [hW]; exact (Below.heap_alloc _ _ _ (by simp)).trans (heap_alloc_new w _)
  have T0 : TabVar W (w.heap.size + 1) p none 0 0 [] [] := by rw [hW]; have := TabVar.new (w.alloc (.cells #[.int .i64 0, .slice none 0 0] 48)) p; rwa [World.size_alloc] at this
  go_enter Tryz.func40, Tryz.ntmps40
  go_wp2
  rw [← hW]
  clear hW
  go_loopw [13] (fun i wr => ∃ (k : Nat) (r : Option Addr) (d : Nat) (cells : List Value), k ≤ n ∧ i = .int .i64 k ∧ TabVar wr (w.heap.size + 1) p r k d (ts.take k) cells ∧ Below (w.heap.size + 1) W wr) (fun i _ => n - (intOf i).toNat)
  case atStart => exact ⟨0, none, 0, [], Nat.zero_le _, rfl, T0, Below.refl _ _⟩
  case round =>
    clear T0
    obtain ⟨k, r, d, cells, hk, rfl, hv, hbw⟩ := hrel
    have zR := hv.lt
    have B2 : Below w.heap.size w wr := B0.trans (hbw.mono (by omega))
    have HA := ha.below B2
    by_cases hlt : k < n
    · obtain ⟨b, off, rfl, hc⟩ := HA.some (by omega)
      obtain ⟨q, dd, hcx, hwx, hm, hnil, hat⟩ := hc k (by omega)
      have hgk := hgr k hlt
      have HS := Hid.mk (wtake_succ ts k (by omega))
      have hki : (k : Int) < (n : Int) := by omega
      generalize wat ts k = Y at *
      obtain ⟨ys, x⟩ := Y
      simp only at hcx hwx hat hm hgk
      obtain ⟨m, hmm⟩ : ∃ m, ys.length = m := ⟨_, rfl⟩
      rw [hmm] at hcx hm hgk
      have HM := Hid.mk hmm
      clear hmm hc
      obtain ⟨V, hV⟩ : ∃ V, V = wr.alloc (.cells #[.slice q m dd, .int .i64 x] 78) := ⟨_, rfl⟩
      have hbV : Below wr.heap.size wr V := by rw [hV]; exact (Below.refl _ _).alloc (Nat.le_refl _) _
      have c3 : V.cell? ⟨wr.heap.size, 0, none⟩ = some (.slice q m dd) := by rw [hV]; exact pair0 wr _ _ _
      have c4 : V.cell? ⟨wr.heap.size, 1, none⟩ = some (.int .i64 x) := by rw [hV]; exact pair1 wr _ _ _
      have hv0 := hv
      have hvV := hv.below hbV
      have hatV := hat.below hbV
      have BW : Below (w.heap.size + 1) W V := hbw.trans (hbV.mono (by omega))
      have zV : wr.heap.size < V.heap.size := World.block_lt_of_cell? _ _ c3
      have t1 := hvV.cell1
      have f1 := hvV.frozen1
      go_wp2_with fail
      rw [← hV]
      clear hV hcx hwx hat hbV hv hbw B2 HA

      have HTB : Hid (some wr.heap.size ≠ (Value.slice r k d).ownBlock) := fun e => by have := hvV.2.outerLt _ e.symm; have := (hv0.own.lt _ e.symm).2; omega
      refine wp_region_held_drew (S := fun w' => w'.cell? ⟨wr.heap.size, 0, none⟩ = some (.slice q m dd) ∧ w'.cell? ⟨wr.heap.size, 1, none⟩ = some (.int .i64 x)) (by kernel_rfl) ?_ (fun hHeld => ?_)
      · (try dsimp only)
        exact ⟨c3, c4⟩
      refine wpAnyH_take (i := 0) (oi := ?_) (v := ?_) ?_ (by kernel_rfl) (by kernel_rfl) (by kernel_rfl) ?_ (Or.inl ⟨?_, ?_⟩) (by assumption) ?_
      rotate_left 2
      · (simp only [List.getElem?_toArray, List.getElem?_cons_zero]; rfl)
      · exact fun _ _ _ h => h
      · rfl
      · (intro wS hSw; (try dsimp only at hSw); go_simp; (try with_reducible rfl))
      (try simp only [Act.put, List.setIfInBounds_toArray, List.set_cons_zero, List.set_cons_succ])
      refine wpAnyH_take (i := 2) (oi := ?_) (v := ?_) ?_ (by kernel_rfl) (by kernel_rfl) (by kernel_rfl) ?_ (Or.inl ⟨?_, ?_⟩) (by assumption) ?_
      rotate_left 2
      · (simp only [List.getElem?_toArray, List.getElem?_cons_zero, List.getElem?_cons_succ]; rfl)
      · exact fun _ _ _ h => h
      · rfl
      · (intro wS hSw; (try dsimp only at hSw); go_simp; (try with_reducible rfl))
      (try simp only [Act.put, List.setIfInBounds_toArray, List.set_cons_zero, List.set_cons_succ])
      refine wpAnyH_take (i := 3) (oi := ?_) (v := ?_) ?_ (by kernel_rfl) (by kernel_rfl) (by kernel_rfl) ?_ (Or.inl ⟨?_, ?_⟩) (by assumption) ?_
      rotate_left 2
      · (simp only [List.getElem?_toArray, List.getElem?_cons_zero, List.getElem?_cons_succ]; rfl)
      · exact fun _ _ _ h => h
      · rfl
      · (intro wS hSw; (try dsimp only at hSw); go_simp; (try with_reducible rfl))
      (try simp only [Act.put, List.setIfInBounds_toArray, List.set_cons_zero, List.set_cons_succ])
      refine wpAnyH_take (i := 5) (oi := ?_) (v := ?_) ?_ (by kernel_rfl) (by kernel_rfl) (by kernel_rfl) ?_ (Or.inl ⟨?_, ?_⟩) (by assumption) ?_
      rotate_left 2
      · (simp only [List.getElem?_toArray, List.getElem?_cons_zero, List.getElem?_cons_succ]; rfl)
      · exact fun _ _ _ h => h
      · rfl
      · (intro wS hSw; (try dsimp only at hSw); go_simp; (try with_reducible rfl))
      (try simp only [Act.put, List.setIfInBounds_toArray, List.set_cons_zero, List.set_cons_succ])
      refine wpAnyH_take (i := 6) (oi := ?_) (v := ?_) ?_ (by kernel_rfl) (by kernel_rfl) (by kernel_rfl) ?_ (Or.inl ⟨?_, ?_⟩) (by assumption) ?_
      rotate_left 2
      · (simp only [List.getElem?_toArray, List.getElem?_cons_zero, List.getElem?_cons_succ]; rfl)
      · exact fun _ _ _ h => h
      · rfl
      · (intro wS hSw; (try dsimp only at hSw); go_simp; (try with_reducible rfl))
      (try simp only [Act.put, List.setIfInBounds_toArray, List.set_cons_zero, List.set_cons_succ])
      refine wpAnyH_ready (rs := [1, 4]) (by kernel_rfl) (by simp) ?_
      refine AllReadyH.cons (o := ?_) ?_ (fun K hK => ?_) ?_
      rotate_left
      · (simp only [List.getElem?_toArray, List.getElem?_cons_zero, List.getElem?_cons_succ]; rfl)
      · go_simp
        (try go_wp2_with fail)
        refine hK.out _ _ ?_ (fun hHeld' => ?_)
        · (try dsimp only)
          exact ⟨c3, c4⟩
        clear hK K hHeld
        have hHeld := hHeld'
        clear hHeld'
        (try simp only [Act.put, List.setIfInBounds_toArray, List.set_cons_zero, List.set_cons_succ])
        refine wpAnyH_ready (rs := [4]) (by kernel_rfl) (by simp) ?_
        refine AllReadyH.cons (o := ?_) ?_ (fun K hK => ?_) AllReadyH.nil
        rotate_left
        · (simp only [List.getElem?_toArray, List.getElem?_cons_zero, List.getElem?_cons_succ]; rfl)
        go_simp
        go_at_call 65; refine (l2OwnRow_any _ _ _ ys _ HM.out hgk hnil hatV.drew).mono ?_; rintro e w2 ⟨r2, d2, rfl, ho2, hb2⟩; have e3 := cell_later hb2 c3; have e4 := cell_later hb2 c4; have u1 := cell_later hb2 t1
        (try go_wp2_with fail)
        refine hK.out _ _ ?_ (fun hHeld' => ?_)
        · (try dsimp only)
          exact ⟨e3, e4⟩
        clear hK K hHeld
        have hHeld := hHeld'
        clear hHeld'
        (try simp only [Act.put, List.setIfInBounds_toArray, List.set_cons_zero, List.set_cons_succ])
        have hv2 := hvV.drew.below hb2
        have z2 : V.heap.size ≤ w2.heap.size := hb2.size
        have hTb : some wr.heap.size ≠ (Value.slice r k d).ownBlock := HTB.out
        refine wpAnyH_take (i := 7) (oi := ?_) (v := ?_) ?_ (by kernel_rfl) (by kernel_rfl) (by kernel_rfl) ?_ (Or.inl ⟨?_, ?_⟩) (by assumption) ?_
        rotate_left 2
        · (simp only [List.getElem?_toArray, List.getElem?_cons_zero, List.getElem?_cons_succ]; rfl)
        · exact fun _ _ _ h => h
        · rfl
        · (intro wS hSw; (try dsimp only at hSw); go_simp; (try with_reducible rfl))
        (try simp only [Act.put, List.setIfInBounds_toArray, List.set_cons_zero, List.set_cons_succ])
        refine wpAnyH_ready (rs := [8]) (by kernel_rfl) (by simp) ?_
        refine AllReadyH.cons (o := ?_) ?_ (fun K hK => ?_) AllReadyH.nil
        rotate_left
        · (simp only [List.getElem?_toArray, List.getElem?_cons_zero, List.getElem?_cons_succ]; rfl)
        go_simp
        skip
        (try go_wp2_with fail)
        refine hK.out _ _ ?_ (fun hHeld' => ?_)
        · (try dsimp only)
          exact ⟨cell_later ((Below.refl _ _).alloc (Nat.le_refl _) _) e3, cell_later ((Below.refl _ _).alloc (Nat.le_refl _) _) e4⟩
        clear hK K hHeld
        have hHeld := hHeld'
        clear hHeld'
        (try simp only [Act.put, List.setIfInBounds_toArray, List.set_cons_zero, List.set_cons_succ])
        refine wpAnyH_ready (rs := [9]) (by kernel_rfl) (by simp) ?_
        refine AllReadyH.cons (o := ?_) ?_ (fun K hK => ?_) AllReadyH.nil
        rotate_left
        · (simp only [List.getElem?_toArray, List.getElem?_cons_zero, List.getElem?_cons_succ]; rfl)
        refine step_append_lies _ rfl (.tmp 18) (.tmp 25) 45 rfl (w.heap.size + 1 + 1) 78 i0 (.agg #[.slice none 0 0, .int .i64 0]) 2 32 Tryz.underlying45 hi hz0 hz1 hz2 rfl (by decide) (.slice r k d) k cells (by simp [Act.eval]) (hv2.own.alloc _) ⟨w2.heap.size, 0, none⟩ 1 1 [.slice r2 m d2, .int .i64 x] (by simp [Act.eval]) rfl (by simpa using news_at w2 #[.slice r2 m d2, .int .i64 x] 78) (by intro u hu; simp at hu; rcases hu with rfl | rfl <;> rfl) (by decide) (by unfold maxLen; omega) (by omega) (by simp; omega) (w2.heap.size + 1) (by simp) ?_; intro g4 cap4 w4 hown4 hgrow4 hat4 hlt4; have bq := hgrow4.cell (v := .slice q m dd) (a := ⟨wr.heap.size, 0, none⟩) (cell_later ((Below.refl _ _).alloc (Nat.le_refl _) _) e3) hTb; have bq' := hgrow4.cell (v := .int .i64 x) (a := ⟨wr.heap.size, 1, none⟩) (cell_later ((Below.refl _ _).alloc (Nat.le_refl _) _) e4) hTb; obtain ⟨s1, s2, hv4⟩ := hvV.drew.pushed hb2 HM.out ho2 hown4 hgrow4 hat4 hlt4
        refine hK.out _ _ ?_ (fun hHeld' => ?_)
        · (try dsimp only)
          exact ⟨bq, bq'⟩
        clear hK K hHeld
        have hHeld := hHeld'
        clear hHeld'
        (try simp only [Act.put, List.setIfInBounds_toArray, List.set_cons_zero, List.set_cons_succ])
        refine wpAnyH_take (i := 10) (oi := ?_) (v := ?_) ?_ (by kernel_rfl) (by kernel_rfl) (by kernel_rfl) ?_ (Or.inl ⟨?_, ?_⟩) (by assumption) ?_
        rotate_left 2
        · (simp only [List.getElem?_toArray, List.getElem?_cons_zero, List.getElem?_cons_succ]; rfl)
        · exact fun _ _ _ h => h
        · rfl
        · (intro wS hSw; (try dsimp only at hSw); go_simp; (try with_reducible rfl))
        (try simp only [Act.put, List.setIfInBounds_toArray, List.set_cons_zero, List.set_cons_succ])
        refine wpAnyH_ready (rs := [11]) (by kernel_rfl) (by simp) ?_
        refine AllReadyH.cons (o := ?_) ?_ (fun K hK => ?_) AllReadyH.nil
        rotate_left
        · (simp only [List.getElem?_toArray, List.getElem?_cons_zero, List.getElem?_cons_succ]; rfl)
        go_simp
        skip
        (try go_wp2_with fail)
        refine hK.out _ _ ?_ (fun hHeld' => ?_)
        · (try dsimp only)
          exact ⟨keep_far bq (by omega), keep_far bq' (by omega)⟩
        clear hK K hHeld
        have hHeld := hHeld'
        clear hHeld'
        (try simp only [Act.put, List.setIfInBounds_toArray, List.set_cons_zero, List.set_cons_succ])
        refine wpAnyH_done (by kernel_rfl) ?_ _
        have HB := Hid.mk (hvV.drew.pushed_below (v := .slice (some ⟨g4, 0, none⟩) (k + 1) cap4) hb2 hgrow4 BW.drew (Nat.le_refl _))
        rw [← HS.out] at hv4
        have HV := Hid.mk hv4
        clear hv4 hown4 hgrow4 hvV BW s1 s2 bq bq' e3 e4 u1 hv2 ho2 hb2 t1 f1 c3 c4 hHeld
        go_wp2
        go_roundw
        case rel => exact ⟨k + 1, _, _, _, by omega, by go_num, HV.out, HB.out⟩
        case measure => simp [intOf]; omega
      refine AllReadyH.cons (o := ?_) ?_ (fun K hK => ?_) AllReadyH.nil
      rotate_left
      · (simp only [List.getElem?_toArray, List.getElem?_cons_zero, List.getElem?_cons_succ]; rfl)
      · go_simp
        go_at_call 65; refine (l2OwnRow_any _ _ _ ys _ HM.out hgk hnil hatV.drew).mono ?_; rintro e w2 ⟨r2, d2, rfl, ho2, hb2⟩; have e3 := cell_later hb2 c3; have e4 := cell_later hb2 c4; have u1 := cell_later hb2 t1
        (try go_wp2_with fail)
        refine hK.out _ _ ?_ (fun hHeld' => ?_)
        · (try dsimp only)
          exact ⟨e3, e4⟩
        clear hK K hHeld
        have hHeld := hHeld'
        clear hHeld'
        (try simp only [Act.put, List.setIfInBounds_toArray, List.set_cons_zero, List.set_cons_succ])
        have hv2 := hvV.drew.below hb2
        have z2 : V.heap.size ≤ w2.heap.size := hb2.size
        have hTb : some wr.heap.size ≠ (Value.slice r k d).ownBlock := HTB.out
        refine wpAnyH_take (i := 7) (oi := ?_) (v := ?_) ?_ (by kernel_rfl) (by kernel_rfl) (by kernel_rfl) ?_ (Or.inl ⟨?_, ?_⟩) (by assumption) ?_
        rotate_left 2
        · (simp only [List.getElem?_toArray, List.getElem?_cons_zero, List.getElem?_cons_succ]; rfl)
        · exact fun _ _ _ h => h
        · rfl
        · (intro wS hSw; (try dsimp only at hSw); go_simp; (try with_reducible rfl))
        (try simp only [Act.put, List.setIfInBounds_toArray, List.set_cons_zero, List.set_cons_succ])
        refine wpAnyH_ready (rs := [1, 8]) (by kernel_rfl) (by simp) ?_
        refine AllReadyH.cons (o := ?_) ?_ (fun K hK => ?_) ?_
        rotate_left
        · (simp only [List.getElem?_toArray, List.getElem?_cons_zero, List.getElem?_cons_succ]; rfl)
        · go_simp
          (try go_wp2_with fail)
          refine hK.out _ _ ?_ (fun hHeld' => ?_)
          · (try dsimp only)
            exact ⟨e3, e4⟩
          clear hK K hHeld
          have hHeld := hHeld'
          clear hHeld'
          (try simp only [Act.put, List.setIfInBounds_toArray, List.set_cons_zero, List.set_cons_succ])
          refine wpAnyH_ready (rs := [8]) (by kernel_rfl) (by simp) ?_
          refine AllReadyH.cons (o := ?_) ?_ (fun K hK => ?_) AllReadyH.nil
          rotate_left
          · (simp only [List.getElem?_toArray, List.getElem?_cons_zero, List.getElem?_cons_succ]; rfl)
          go_simp
          skip
          (try go_wp2_with fail)
          refine hK.out _ _ ?_ (fun hHeld' => ?_)
          · (try dsimp only)
            exact ⟨cell_later ((Below.refl _ _).alloc (Nat.le_refl _) _) e3, cell_later ((Below.refl _ _).alloc (Nat.le_refl _) _) e4⟩
          clear hK K hHeld
          have hHeld := hHeld'
          clear hHeld'
          (try simp only [Act.put, List.setIfInBounds_toArray, List.set_cons_zero, List.set_cons_succ])
          refine wpAnyH_ready (rs := [9]) (by kernel_rfl) (by simp) ?_
          refine AllReadyH.cons (o := ?_) ?_ (fun K hK => ?_) AllReadyH.nil
          rotate_left
          · (simp only [List.getElem?_toArray, List.getElem?_cons_zero, List.getElem?_cons_succ]; rfl)
          refine step_append_lies _ rfl (.tmp 18) (.tmp 25) 45 rfl (w.heap.size + 1 + 1) 78 i0 (.agg #[.slice none 0 0, .int .i64 0]) 2 32 Tryz.underlying45 hi hz0 hz1 hz2 rfl (by decide) (.slice r k d) k cells (by simp [Act.eval]) (hv2.own.alloc _) ⟨w2.heap.size, 0, none⟩ 1 1 [.slice r2 m d2, .int .i64 x] (by simp [Act.eval]) rfl (by simpa using news_at w2 #[.slice r2 m d2, .int .i64 x] 78) (by intro u hu; simp at hu; rcases hu with rfl | rfl <;> rfl) (by decide) (by unfold maxLen; omega) (by omega) (by simp; omega) (w2.heap.size + 1) (by simp) ?_; intro g4 cap4 w4 hown4 hgrow4 hat4 hlt4; have bq := hgrow4.cell (v := .slice q m dd) (a := ⟨wr.heap.size, 0, none⟩) (cell_later ((Below.refl _ _).alloc (Nat.le_refl _) _) e3) hTb; have bq' := hgrow4.cell (v := .int .i64 x) (a := ⟨wr.heap.size, 1, none⟩) (cell_later ((Below.refl _ _).alloc (Nat.le_refl _) _) e4) hTb; obtain ⟨s1, s2, hv4⟩ := hvV.drew.pushed hb2 HM.out ho2 hown4 hgrow4 hat4 hlt4
          refine hK.out _ _ ?_ (fun hHeld' => ?_)
          · (try dsimp only)
            exact ⟨bq, bq'⟩
          clear hK K hHeld
          have hHeld := hHeld'
          clear hHeld'
          (try simp only [Act.put, List.setIfInBounds_toArray, List.set_cons_zero, List.set_cons_succ])
          refine wpAnyH_take (i := 10) (oi := ?_) (v := ?_) ?_ (by kernel_rfl) (by kernel_rfl) (by kernel_rfl) ?_ (Or.inl ⟨?_, ?_⟩) (by assumption) ?_
          rotate_left 2
          · (simp only [List.getElem?_toArray, List.getElem?_cons_zero, List.getElem?_cons_succ]; rfl)
          · exact fun _ _ _ h => h
          · rfl
          · (intro wS hSw; (try dsimp only at hSw); go_simp; (try with_reducible rfl))
          (try simp only [Act.put, List.setIfInBounds_toArray, List.set_cons_zero, List.set_cons_succ])
          refine wpAnyH_ready (rs := [11]) (by kernel_rfl) (by simp) ?_
          refine AllReadyH.cons (o := ?_) ?_ (fun K hK => ?_) AllReadyH.nil
          rotate_left
          · (simp only [List.getElem?_toArray, List.getElem?_cons_zero, List.getElem?_cons_succ]; rfl)
          go_simp
          skip
          (try go_wp2_with fail)
          refine hK.out _ _ ?_ (fun hHeld' => ?_)
          · (try dsimp only)
            exact ⟨keep_far bq (by omega), keep_far bq' (by omega)⟩
          clear hK K hHeld
          have hHeld := hHeld'
          clear hHeld'
          (try simp only [Act.put, List.setIfInBounds_toArray, List.set_cons_zero, List.set_cons_succ])
          refine wpAnyH_done (by kernel_rfl) ?_ _
          have HB := Hid.mk (hvV.drew.pushed_below (v := .slice (some ⟨g4, 0, none⟩) (k + 1) cap4) hb2 hgrow4 BW.drew (Nat.le_refl _))
          rw [← HS.out] at hv4
          have HV := Hid.mk hv4
          clear hv4 hown4 hgrow4 hvV BW s1 s2 bq bq' e3 e4 u1 hv2 ho2 hb2 t1 f1 c3 c4 hHeld
          go_wp2
          go_roundw
          case rel => exact ⟨k + 1, _, _, _, by omega, by go_num, HV.out, HB.out⟩
          case measure => simp [intOf]; omega
        refine AllReadyH.cons (o := ?_) ?_ (fun K hK => ?_) AllReadyH.nil
        rotate_left
        · (simp only [List.getElem?_toArray, List.getElem?_cons_zero, List.getElem?_cons_succ]; rfl)
        · go_simp
          (try go_wp2_with fail)
          refine hK.out _ _ ?_ (fun hHeld' => ?_)
          · (try dsimp only)
            exact ⟨cell_later ((Below.refl _ _).alloc (Nat.le_refl _) _) e3, cell_later ((Below.refl _ _).alloc (Nat.le_refl _) _) e4⟩
          clear hK K hHeld
          have hHeld := hHeld'
          clear hHeld'
          (try simp only [Act.put, List.setIfInBounds_toArray, List.set_cons_zero, List.set_cons_succ])
          have u2 := cell_later ((Below.refl _ _).alloc (Nat.le_refl _) (.cells #[.slice r2 m d2, .int .i64 x] 78)) u1
          refine wpAnyH_ready (rs := [1]) (by kernel_rfl) (by simp) ?_
          refine AllReadyH.cons (o := ?_) ?_ (fun K hK => ?_) AllReadyH.nil
          rotate_left
          · (simp only [List.getElem?_toArray, List.getElem?_cons_zero, List.getElem?_cons_succ]; rfl)
          go_simp
          skip
          (try go_wp2_with fail)
          refine hK.out _ _ ?_ (fun hHeld' => ?_)
          · (try dsimp only)
            exact ⟨cell_later ((Below.refl _ _).alloc (Nat.le_refl _) _) e3, cell_later ((Below.refl _ _).alloc (Nat.le_refl _) _) e4⟩
          clear hK K hHeld
          have hHeld := hHeld'
          clear hHeld'
          (try simp only [Act.put, List.setIfInBounds_toArray, List.set_cons_zero, List.set_cons_succ])
          refine wpAnyH_ready (rs := [9]) (by kernel_rfl) (by simp) ?_
          refine AllReadyH.cons (o := ?_) ?_ (fun K hK => ?_) AllReadyH.nil
          rotate_left
          · (simp only [List.getElem?_toArray, List.getElem?_cons_zero, List.getElem?_cons_succ]; rfl)
          refine step_append_lies _ rfl (.tmp 18) (.tmp 25) 45 rfl (w.heap.size + 1 + 1) 78 i0 (.agg #[.slice none 0 0, .int .i64 0]) 2 32 Tryz.underlying45 hi hz0 hz1 hz2 rfl (by decide) (.slice r k d) k cells (by simp [Act.eval]) (hv2.own.alloc _) ⟨w2.heap.size, 0, none⟩ 1 1 [.slice r2 m d2, .int .i64 x] (by simp [Act.eval]) rfl (by simpa using news_at w2 #[.slice r2 m d2, .int .i64 x] 78) (by intro u hu; simp at hu; rcases hu with rfl | rfl <;> rfl) (by decide) (by unfold maxLen; omega) (by omega) (by simp; omega) (w2.heap.size + 1) (by simp) ?_; intro g4 cap4 w4 hown4 hgrow4 hat4 hlt4; have bq := hgrow4.cell (v := .slice q m dd) (a := ⟨wr.heap.size, 0, none⟩) (cell_later ((Below.refl _ _).alloc (Nat.le_refl _) _) e3) hTb; have bq' := hgrow4.cell (v := .int .i64 x) (a := ⟨wr.heap.size, 1, none⟩) (cell_later ((Below.refl _ _).alloc (Nat.le_refl _) _) e4) hTb; obtain ⟨s1, s2, hv4⟩ := hvV.drew.pushed hb2 HM.out ho2 hown4 hgrow4 hat4 hlt4
          refine hK.out _ _ ?_ (fun hHeld' => ?_)
          · (try dsimp only)
            exact ⟨bq, bq'⟩
          clear hK K hHeld
          have hHeld := hHeld'
          clear hHeld'
          (try simp only [Act.put, List.setIfInBounds_toArray, List.set_cons_zero, List.set_cons_succ])
          refine wpAnyH_take (i := 10) (oi := ?_) (v := ?_) ?_ (by kernel_rfl) (by kernel_rfl) (by kernel_rfl) ?_ (Or.inl ⟨?_, ?_⟩) (by assumption) ?_
          rotate_left 2
          · (simp only [List.getElem?_toArray, List.getElem?_cons_zero, List.getElem?_cons_succ]; rfl)
          · exact fun _ _ _ h => h
          · rfl
          · (intro wS hSw; (try dsimp only at hSw); go_simp; (try with_reducible rfl))
          (try simp only [Act.put, List.setIfInBounds_toArray, List.set_cons_zero, List.set_cons_succ])
          refine wpAnyH_ready (rs := [11]) (by kernel_rfl) (by simp) ?_
          refine AllReadyH.cons (o := ?_) ?_ (fun K hK => ?_) AllReadyH.nil
          rotate_left
          · (simp only [List.getElem?_toArray, List.getElem?_cons_zero, List.getElem?_cons_succ]; rfl)
          go_simp
          skip
          (try go_wp2_with fail)
          refine hK.out _ _ ?_ (fun hHeld' => ?_)
          · (try dsimp only)
            exact ⟨keep_far bq (by omega), keep_far bq' (by omega)⟩
          clear hK K hHeld
          have hHeld := hHeld'
          clear hHeld'
          (try simp only [Act.put, List.setIfInBounds_toArray, List.set_cons_zero, List.set_cons_succ])
          refine wpAnyH_done (by kernel_rfl) ?_ _
          have HB := Hid.mk (hvV.drew.pushed_below (v := .slice (some ⟨g4, 0, none⟩) (k + 1) cap4) hb2 hgrow4 BW.drew (Nat.le_refl _))
          rw [← HS.out] at hv4
          have HV := Hid.mk hv4
          clear hv4 hown4 hgrow4 hvV BW s1 s2 bq bq' e3 e4 u1 hv2 ho2 hb2 t1 f1 c3 c4 hHeld
          go_wp2
          go_roundw
          case rel => exact ⟨k + 1, _, _, _, by omega, by go_num, HV.out, HB.out⟩
          case measure => simp [intOf]; omega
    · obtain rfl : k = n := by omega
      rw [wtake_all' ts hz] at hv
      have e0 := (hbw.cell (p := ⟨w.heap.size, 0, none⟩) (by simp)).trans (show W.cell? ⟨w.heap.size, 0, none⟩ = some (.int .i64 0) by rw [cell_of_row W _ 0 _ _ (0, 0) q0]; rfl)
      have e1 := (hbw.cell (p := ⟨w.heap.size, 1, none⟩) (by simp)).trans (show W.cell? ⟨w.heap.size, 1, none⟩ = some (.slice none 0 0) by rw [cell_of_row W _ 1 _ _ (0, 0) q0]; rfl)
      have f0 := (hbw.frozen (p := ⟨w.heap.size, 0, none⟩) (by simp)).trans (frozen_of_row W _ 0 _ _ q0)
      have f1 := (hbw.frozen (p := ⟨w.heap.size, 1, none⟩) (by simp)).trans (frozen_of_row W _ 1 _ _ q0)
      have t0 := hv.cell0
      have t1 := hv.cell1
      have HW : AtW wr r ts := hv.2.atW (fun i hi => by have := hgr i hi; omega)
      go_wp2_with fail
      refine (specGoodTable_any _ _ _ ts p _ hz (by omega) HW).mono ?_
      rintro e w2 ⟨rfl, hb2⟩
      have g0 := cell_later hb2 e0
      have g1 := cell_later hb2 e1
      have k0 := frozen_later hb2 e0 f0
      have k1 := frozen_later hb2 e1 f1
      have s0 := cell_later hb2 t0
      have s1 := cell_later hb2 t1
      have hv2 := hv.below hb2
      have B3 := B2.trans (hb2.mono B2.size)
      clear e0 e1 f0 f1 t0 t1 hv HW HA hb2 hbw q0 ha
      cases hg : goodT p ts with
      | false =>
        have HG := Hid.mk hg
        clear hg
        go_wp2
        refine bodyPost_ret (v := .tuple #[.agg #[.int .i64 0, .slice none 0 0], .bool false]) (by simp [results, Tryz.results40, go_sem, g0, g1]) rfl ⟨⟨none, 0, 0, [], ?_, ?_⟩, ?_⟩
        · simp [tellP, HG.out]
        · simp only [tellT, HG.out]
          exact OwnWk.start rfl (Nat.le_refl _) (World.ownsRow_nil _ _ _ _) (fun b hb => by cases hb)
        · exact (B3.setCell (by simp) _).setCell (by simp) _
      | true =>
        have HG := Hid.mk hg
        clear hg
        go_wp2
        refine bodyPost_ret (v := .tuple #[.agg #[.int .i64 p, .slice r k d], .bool true]) (by simp [results, Tryz.results40, go_sem, g0, g1]) rfl ⟨⟨r, k, d, cells, ?_, ?_⟩, ?_⟩
        · simp [tellP, HG.out]
        · simp only [tellT, HG.out, if_true]
          exact ((hv2.2.setCell (a0 := ⟨w.heap.size, 0, none⟩) (.inl (by simp; omega)) _).setCell (a0 := ⟨w.heap.size, 1, none⟩) (.inl (by simp; omega)) _).widen (by omega) (by simp [World.setCell]) (Nat.le_refl _)
        · exact (B3.setCell (by simp) _).setCell (by simp) _

end Go.Proofs.YtlfljfmhhnoinabGreat

/- Plain facts on tables that are good, and on a result's variable behind 'return f(..)'. -/
namespace Go.Proofs.YtlfljfmhhnoinabGreat
open Go.RowKit

theorem OwnWk.stored {w : World} {lo hi R : Nat} {te ti : TypeId} {a : Option Addr} {n c : Nat} {ts : List WRow} {cells : List Value} {lo' : Nat} (h : OwnW w lo hi te ti a n c ts cells) (hR : R < lo) (hlo : lo' ≤ lo) (u v : Value) :
    OwnW ((w.setCell ⟨R, 0, none⟩ u).setCell ⟨R, 1, none⟩ v) lo' ((w.setCell ⟨R, 0, none⟩ u).setCell ⟨R, 1, none⟩ v).heap.size te ti a n c ts cells :=
  ((h.setCell (a0 := ⟨R, 0, none⟩) (.inl hR) u).setCell (a0 := ⟨R, 1, none⟩) (.inl hR) v).widen hlo (by have := h.top; simp [World.setCell]; omega) (Nat.le_refl _)
theorem alloc_keeps {w : World} {a : Addr} {v : Value} (h : w.cell? a = some v) (o : Obj) : (w.alloc o).cell? a = some v := cell_later ((Below.refl _ _).alloc (Nat.le_refl _) o) h
theorem goodT_noZero {p : Int} {ts : List WRow} (h : goodT p ts = true) : NoZero ts := fun t ht => by
  obtain ⟨k, hk, rfl⟩ := List.getElem_of_mem ht
  have := (goodT_parts h).2.2 k hk
  simp only [stepB, Bool.and_eq_true, Bool.not_eq_true', decide_eq_false_iff_not] at this
  have e : wat ts k = ts[k] := by simp [wat, List.getD, hk]
  rw [e] at this
  exact this.2.1
theorem goodT_len60 {p : Int} {ts : List WRow} (h : goodT p ts = true) : ts.length ≤ 60 := (goodT_parts h).2.1
theorem goodT_cells {p : Int} {ts : List WRow} (h : goodT p ts = true) (k : Nat) (hk : k < ts.length) : good (wat ts k).1 = true ∧ -1000000 ≤ (wat ts k).2 ∧ (wat ts k).2 ≤ 1000000 := by
  have := goodW_cells (goodL_at (goodL_of_goodT h) k hk)
  exact ⟨this.1, this.2.2⟩
theorem goodT_mem {q : Nat} {ts : List WRow} (h : goodT q ts = true) : ∀ t ∈ ts, good t.1 = true ∧ t.1.length = q := fun t ht => by
  have := goodL_mem (goodL_of_goodT h) t ht
  exact ⟨this.1, by omega⟩
theorem goodT_six {p : Int} {ts : List WRow} (h : goodT p ts = true) : ∀ t ∈ ts, t.1.length ≤ 6 ∧ -1000000 ≤ t.2 ∧ t.2 ≤ 1000000 := fun t ht => by
  have := goodL_mem (goodL_of_goodT h) t ht
  exact ⟨good_len this.1, this.2.2⟩
theorem at_of_mem {ts : List WRow} {Q : WRow → Prop} (h : ∀ t ∈ ts, Q t) (k : Nat) (hk : k < ts.length) : Q (wat ts k) := h _ (wat_mem hk)

end Go.Proofs.YtlfljfmhhnoinabGreat

/- Maps of weights that tell a list of rows; what a range over one has passed. -/
namespace Go.Proofs.YtlfljfmhhnoinabGreat
open Go.RowKit Go.Maps

/-- The map in the block b tells the rows xs. -/
def Cnt (w : World) (b q M : Nat) (xs : List WRow) : Prop :=
  ∃ cnt D f S, w.ownsMap Tryz.prog 62 (plainElem Tryz.prog 3) b cnt D ∧ MapIs D f S ∧ Keys q S ∧ Tells q f xs ∧ cnt ≤ M

section
variable {w w' : World} {b q M : Nat} {xs : List WRow}
theorem Cnt.grown {row : Option Nat} (h : Cnt w b q M xs) (hg : w.grownBy w' row) (hne : some b ≠ row) : Cnt w' b q M xs := by
  obtain ⟨cnt, D, f, S, h1, h2⟩ := h
  exact ⟨cnt, D, f, S, h1.kept hg hne, h2⟩
theorem Cnt.below (h : Cnt w b q M xs) (hb : Below w.heap.size w w') : Cnt w' b q M xs := h.grown (Below.toGrown hb none) (by simp)
theorem Cnt.alloc (h : Cnt w b q M xs) (o : Obj) : Cnt (w.alloc o) b q M xs := h.below ((Below.refl _ _).alloc (Nat.le_refl _) o)
theorem Cnt.drew (h : Cnt w b q M xs) : Cnt w.drew b q M xs := h.below (Below.refl _ _).drew
theorem Cnt.mono {M' : Nat} (h : Cnt w b q M xs) (hM : M ≤ M') : Cnt w b q M' xs := by
  obtain ⟨cnt, D, f, S, h1, h2, h3, h4, h5⟩ := h
  exact ⟨cnt, D, f, S, h1, h2, h3, h4, by omega⟩
theorem Cnt.lt (h : Cnt w b q M xs) : b < w.heap.size := by
  obtain ⟨cnt, D, f, S, ⟨es, clock, hb, _⟩, _⟩ := h
  exact (Array.getElem?_eq_some_iff.1 hb).1
end

theorem Tells.bound {q : Nat} {f : List Int → Int} {xs : List WRow} {B : Int} (h : Tells q f xs) (hB : 0 ≤ B) (hx : ∀ t ∈ xs, -B ≤ t.2 ∧ t.2 ≤ B) {zs : List Int} (hg : good zs = true) (hl : zs.length = q) : -B ≤ f (raised zs) ∧ f (raised zs) ≤ B := by
  rw [← h.weight zs hg hl]; exact wOf_bound hB hx
theorem Tells.key {q : Nat} {f : List Int → Int} {xs : List WRow} {B : Int} {S : List (List Int)} (h : Tells q f xs) (hS : Keys q S) (hB : 0 ≤ B) (hx : ∀ t ∈ xs, -B ≤ t.2 ∧ t.2 ≤ B) {x : List Int} (hm : x ∈ S) : -B ≤ f x ∧ f x ≤ B := by
  obtain ⟨zs, h1, h2, rfl⟩ := hS x hm
  exact h.bound hB hx h1 h2
theorem Keys.fits {q : Nat} {S : List (List Int)} (hS : Keys q S) {x : List Int} (hm : x ∈ S) : Fits x := by
  obtain ⟨zs, h1, h2, rfl⟩ := hS x hm
  exact fits_raised h1
theorem Keys.of_sub {q : Nat} {S S' : List (List Int)} (hS : Keys q S) (h : ∀ x ∈ S', x ∈ S) : Keys q S' := fun a ha => hS a (h a ha)

/-- The arrays that a range has passed. -/
structure Ran (D : DataW Unit) (left : Lit → Bool) (ks : List (List Int)) : Prop where
  fits : ∀ x ∈ ks, Fits x
  once : ks.Nodup
  just : ∀ x, Fits x → (x ∈ ks ↔ (Maps.has D (klit x) = true ∧ left (klit x) = false))
theorem Ran.start (D : DataW Unit) : Ran D (Maps.has D) [] := ⟨by simp, by simp, fun x _ => by
  constructor
  · intro h; cases h
  · rintro ⟨h1, h2⟩; rw [h1] at h2; cases h2⟩
theorem Ran.step {D : DataW Unit} {left : Lit → Bool} {ks : List (List Int)} (h : Ran D left ks) {x : List Int} (hx : Fits x) (hl : left (klit x) = true) (hh : Maps.has D (klit x) = true) :
    Ran D (fun z => left z && !z.sameKey (klit x)) (x :: ks) ∧ x ∉ ks := by
  have hself : (klit x).sameKey (klit x) = true := WideAt.sameKey_self (klit_key hx)
  have hoth : ∀ y, Fits y → y ≠ x → (klit y).sameKey (klit x) = false := fun y hy hne => sameKey_ne (fun e => hne (klit_inj hy hx e))
  have hnot : x ∉ ks := fun hm => by have := ((h.just x hx).1 hm).2; rw [hl] at this; cases this
  refine ⟨⟨fun y hy => ?_, List.nodup_cons.2 ⟨hnot, h.once⟩, fun y hy => ?_⟩, hnot⟩
  · rcases List.mem_cons.1 hy with rfl | hy
    · exact hx
    · exact h.fits y hy
  · by_cases e : y = x
    · subst e
      simp [hh, hself]
    · rw [List.mem_cons, h.just y hy]
      simp only [hoth y hy e, Bool.not_false, Bool.and_true]
      simp [e]
theorem Ran.all {D : DataW Unit} {left : Lit → Bool} {ks : List (List Int)} {f : List Int → Int} {S : List (List Int)} (h : Ran D left ks) (hm : MapIs D f S) (hl : ∀ kl, left kl = false) {x : List Int} (hf : Fits x) : x ∈ ks ↔ x ∈ S := by
  rw [h.just x hf, hl, (hm x hf).2]
  simp
theorem map_zero {D : DataW Unit} {f : List Int → Int} {S : List (List Int)} (hm : MapIs D f S) {x : List Int} (hx : Fits x) (h : x ∉ S) : f x = 0 := by
  have h1 := (hm x hx).1
  have h2 : Maps.has D (klit x) = false := by rw [(hm x hx).2]; exact decide_eq_false h
  rw [atKey_of_not_has h2] at h1
  simpa using h1.symm

end Go.Proofs.YtlfljfmhhnoinabGreat
