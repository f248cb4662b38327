/- Several texts of one proof, in build order: L2Tell, TabU, GoodTI, Dist0, TbP. -/
import Derived.Test.YthliamoeplgblaaM9
import Derived.Test.YthliamoeplgblaaM14
import Derived.Test.YthliamoeplgblaaM13
import Derived.Test.YthliamoeplgblaaM5

/- Contract of spec.l2Tell. -/
namespace Go.Proofs.Ythliamoeplgblaa
open Go.RowKit

theorem wtake_all' (ts : List WRow) {n : Nat} (h : ts.length = n) : ts.take n = ts := List.take_of_length_le (by omega)

set_option maxRecDepth 100000 in
set_option maxHeartbeats 8000000 in
theorem l2Tell_any (a : Option Addr) (n c : Nat) (ts : List WRow) (p : Int) (w : World) (hz : ts.length = n) (hn : n ≤ 1048576) (hgr : ∀ k, k < n → (wat ts k).1.length ≤ 1048576) (ha : AtM w a ts) :
    Calls Try.prog 45 #[.int .i64 p, .slice a n c] w fun e w' => TabRet e w' w.heap.size (goodT p ts) (tellP p ts) (tellT p ts) ∧ Below w.heap.size w w' := by
  obtain ⟨i0, hi, hz0, hz1, hz2⟩ := info_parts Try.infoW
  obtain ⟨W, hW⟩ : ∃ W, W = (w.alloc (.cells #[.int .i64 0, .slice none 0 0] 45)).alloc (.cells #[.int .i64 p, .slice none 0 0] 45) := ⟨_, rfl⟩
  have zW : W.heap.size = w.heap.size + 1 + 1 := by rw [hW]; simp
  have B0 : Below w.heap.size w W := by rw [hW]; exact ((Below.refl _ _).alloc (Nat.le_refl _) _).alloc (by simp) _
  have q0 : W.heap[w.heap.size]? = some (.cells #[.int .i64 0, .slice none 0 0] 45 (0, 0)) := by
    rw [hW]; exact (Below.heap_alloc _ _ _ (by simp)).trans (heap_alloc_new w _)
  have T0 : TabVar W (w.heap.size + 1) p none 0 0 [] [] := by rw [hW]; have := TabVar.new (w.alloc (.cells #[.int .i64 0, .slice none 0 0] 45)) p; rwa [World.size_alloc] at this
  go_enter Try.func45, Try.ntmps45
  go_wp2
  rw [← hW]
  clear hW
  go_loopw [13] (fun i wr => ∃ (k : Nat) (r : Option Addr) (d : Nat) (cells : List Value), k ≤ n ∧ i = .int .i64 k ∧ TabVar wr (w.heap.size + 1) p r k d (ts.take k) cells ∧ Below (w.heap.size + 1) W wr) (fun i _ => n - (intOf i).toNat)
  case atStart => exact ⟨0, none, 0, [], Nat.zero_le _, rfl, T0, Below.refl _ _⟩
  case round =>
    clear T0
    obtain ⟨k, r, d, cells, hk, rfl, hv, hbw⟩ := hrel
    have zR := hv.lt
    have B2 : Below w.heap.size w wr := B0.trans (hbw.mono (by omega))
    have HA := ha.below B2
    by_cases hlt : k < n
    · obtain ⟨b, off, rfl, hc⟩ := HA.some (by omega)
      obtain ⟨q, dd, hcx, hwx, hm, hnil, hat⟩ := hc k (by omega)
      have hgk := hgr k hlt
      have HS := Hid.mk (wtake_succ ts k (by omega))
      have hki : (k : Int) < (n : Int) := by omega
      generalize wat ts k = Y at *
      obtain ⟨ys, x⟩ := Y
      simp only at hcx hwx hat hm hgk
      obtain ⟨m, hmm⟩ : ∃ m, ys.length = m := ⟨_, rfl⟩
      rw [hmm] at hcx hm hgk
      have HM := Hid.mk hmm
      clear hmm hc
      obtain ⟨V, hV⟩ : ∃ V, V = wr.alloc (.cells #[.slice q m dd, .int .i64 x] 107) := ⟨_, rfl⟩
      have hbV : Below wr.heap.size wr V := by rw [hV]; exact (Below.refl _ _).alloc (Nat.le_refl _) _
      have c3 : V.cell? ⟨wr.heap.size, 0, none⟩ = some (.slice q m dd) := by rw [hV]; exact pair0 wr _ _ _
      have c4 : V.cell? ⟨wr.heap.size, 1, none⟩ = some (.int .i64 x) := by rw [hV]; exact pair1 wr _ _ _
      have hv0 := hv
      have hvV := hv.below hbV
      have hatV := hat.below hbV
      have BW : Below (w.heap.size + 1) W V := hbw.trans (hbV.mono (by omega))
      have zV : wr.heap.size < V.heap.size := World.block_lt_of_cell? _ _ c3
      have t1 := hvV.cell1
      have f1 := hvV.frozen1
      go_wp2_with fail
      rw [← hV]
      clear hV hcx hwx hat hbV hv hbw B2 HA

      have HTB : Hid (some wr.heap.size ≠ (Value.slice r k d).ownBlock) := fun e => by have := hvV.2.outerLt _ e.symm; have := (hv0.own.lt _ e.symm).2; omega
      refine wp_region_held_drew (S := fun w' => w'.cell? ⟨wr.heap.size, 0, none⟩ = some (.slice q m dd) ∧ w'.cell? ⟨wr.heap.size, 1, none⟩ = some (.int .i64 x)) (by kernel_rfl) ?_ (fun hHeld => ?_)
      · (try dsimp only)
        exact ⟨c3, c4⟩
      refine wpAnyH_take (i := 0) (oi := ?_) (v := ?_) ?_ (by kernel_rfl) (by kernel_rfl) (by kernel_rfl) ?_ (Or.inl ⟨?_, ?_⟩) (by assumption) ?_
      rotate_left 2
      · (simp only [List.getElem?_toArray, List.getElem?_cons_zero]; rfl)
      · exact fun _ _ _ h => h
      · rfl
      · (intro wS hSw; (try dsimp only at hSw); go_simp; (try with_reducible rfl))
      (try simp only [Act.put, List.setIfInBounds_toArray, List.set_cons_zero, List.set_cons_succ])
      refine wpAnyH_take (i := 2) (oi := ?_) (v := ?_) ?_ (by kernel_rfl) (by kernel_rfl) (by kernel_rfl) ?_ (Or.inl ⟨?_, ?_⟩) (by assumption) ?_
      rotate_left 2
      · (simp only [List.getElem?_toArray, List.getElem?_cons_zero, List.getElem?_cons_succ]; rfl)
      · exact fun _ _ _ h => h
      · rfl
      · (intro wS hSw; (try dsimp only at hSw); go_simp; (try with_reducible rfl))
      (try simp only [Act.put, List.setIfInBounds_toArray, List.set_cons_zero, List.set_cons_succ])
      refine wpAnyH_take (i := 3) (oi := ?_) (v := ?_) ?_ (by kernel_rfl) (by kernel_rfl) (by kernel_rfl) ?_ (Or.inl ⟨?_, ?_⟩) (by assumption) ?_
      rotate_left 2
      · (simp only [List.getElem?_toArray, List.getElem?_cons_zero, List.getElem?_cons_succ]; rfl)
      · exact fun _ _ _ h => h
      · rfl
      · (intro wS hSw; (try dsimp only at hSw); go_simp; (try with_reducible rfl))
      (try simp only [Act.put, List.setIfInBounds_toArray, List.set_cons_zero, List.set_cons_succ])
      refine wpAnyH_take (i := 5) (oi := ?_) (v := ?_) ?_ (by kernel_rfl) (by kernel_rfl) (by kernel_rfl) ?_ (Or.inl ⟨?_, ?_⟩) (by assumption) ?_
      rotate_left 2
      · (simp only [List.getElem?_toArray, List.getElem?_cons_zero, List.getElem?_cons_succ]; rfl)
      · exact fun _ _ _ h => h
      · rfl
      · (intro wS hSw; (try dsimp only at hSw); go_simp; (try with_reducible rfl))
      (try simp only [Act.put, List.setIfInBounds_toArray, List.set_cons_zero, List.set_cons_succ])
      refine wpAnyH_take (i := 6) (oi := ?_) (v := ?_) ?_ (by kernel_rfl) (by kernel_rfl) (by kernel_rfl) ?_ (Or.inl ⟨?_, ?_⟩) (by assumption) ?_
      rotate_left 2
      · (simp only [List.getElem?_toArray, List.getElem?_cons_zero, List.getElem?_cons_succ]; rfl)
      · exact fun _ _ _ h => h
      · rfl
      · (intro wS hSw; (try dsimp only at hSw); go_simp; (try with_reducible rfl))
      (try simp only [Act.put, List.setIfInBounds_toArray, List.set_cons_zero, List.set_cons_succ])
      refine wpAnyH_ready (rs := [1, 4]) (by kernel_rfl) (by simp) ?_
      refine AllReadyH.cons (o := ?_) ?_ (fun K hK => ?_) ?_
      rotate_left
      · (simp only [List.getElem?_toArray, List.getElem?_cons_zero, List.getElem?_cons_succ]; rfl)
      · go_simp
        (try go_wp2_with fail)
        refine hK.out _ _ ?_ (fun hHeld' => ?_)
        · (try dsimp only)
          exact ⟨c3, c4⟩
        clear hK K hHeld
        have hHeld := hHeld'
        clear hHeld'
        (try simp only [Act.put, List.setIfInBounds_toArray, List.set_cons_zero, List.set_cons_succ])
        refine wpAnyH_ready (rs := [4]) (by kernel_rfl) (by simp) ?_
        refine AllReadyH.cons (o := ?_) ?_ (fun K hK => ?_) AllReadyH.nil
        rotate_left
        · (simp only [List.getElem?_toArray, List.getElem?_cons_zero, List.getElem?_cons_succ]; rfl)
        go_simp
        go_at_call 71; refine (l2OwnRow_any _ _ _ ys _ HM.out hgk hnil hatV.drew).mono ?_; rintro e w2 ⟨r2, d2, rfl, ho2, hb2⟩; have e3 := cell_later hb2 c3; have e4 := cell_later hb2 c4; have u1 := cell_later hb2 t1
        (try go_wp2_with fail)
        refine hK.out _ _ ?_ (fun hHeld' => ?_)
        · (try dsimp only)
          exact ⟨e3, e4⟩
        clear hK K hHeld
        have hHeld := hHeld'
        clear hHeld'
        (try simp only [Act.put, List.setIfInBounds_toArray, List.set_cons_zero, List.set_cons_succ])
        have hv2 := hvV.drew.below hb2
        have z2 : V.heap.size ≤ w2.heap.size := hb2.size
        have hTb : some wr.heap.size ≠ (Value.slice r k d).ownBlock := HTB.out
        refine wpAnyH_take (i := 7) (oi := ?_) (v := ?_) ?_ (by kernel_rfl) (by kernel_rfl) (by kernel_rfl) ?_ (Or.inl ⟨?_, ?_⟩) (by assumption) ?_
        rotate_left 2
        · (simp only [List.getElem?_toArray, List.getElem?_cons_zero, List.getElem?_cons_succ]; rfl)
        · exact fun _ _ _ h => h
        · rfl
        · (intro wS hSw; (try dsimp only at hSw); go_simp; (try with_reducible rfl))
        (try simp only [Act.put, List.setIfInBounds_toArray, List.set_cons_zero, List.set_cons_succ])
        refine wpAnyH_ready (rs := [8]) (by kernel_rfl) (by simp) ?_
        refine AllReadyH.cons (o := ?_) ?_ (fun K hK => ?_) AllReadyH.nil
        rotate_left
        · (simp only [List.getElem?_toArray, List.getElem?_cons_zero, List.getElem?_cons_succ]; rfl)
        go_simp
        skip
        (try go_wp2_with fail)
        refine hK.out _ _ ?_ (fun hHeld' => ?_)
        · (try dsimp only)
          exact ⟨cell_later ((Below.refl _ _).alloc (Nat.le_refl _) _) e3, cell_later ((Below.refl _ _).alloc (Nat.le_refl _) _) e4⟩
        clear hK K hHeld
        have hHeld := hHeld'
        clear hHeld'
        (try simp only [Act.put, List.setIfInBounds_toArray, List.set_cons_zero, List.set_cons_succ])
        refine wpAnyH_ready (rs := [9]) (by kernel_rfl) (by simp) ?_
        refine AllReadyH.cons (o := ?_) ?_ (fun K hK => ?_) AllReadyH.nil
        rotate_left
        · (simp only [List.getElem?_toArray, List.getElem?_cons_zero, List.getElem?_cons_succ]; rfl)
        refine step_append_lies _ rfl (.tmp 18) (.tmp 25) 43 rfl (w.heap.size + 1 + 1) 107 i0 (.agg #[.slice none 0 0, .int .i64 0]) 2 32 Try.underlying43 hi hz0 hz1 hz2 rfl (by decide) (.slice r k d) k cells (by simp [Act.eval]) (hv2.own.alloc _) ⟨w2.heap.size, 0, none⟩ 1 1 [.slice r2 m d2, .int .i64 x] (by simp [Act.eval]) rfl (by simpa using news_at w2 #[.slice r2 m d2, .int .i64 x] 107) (by intro u hu; simp at hu; rcases hu with rfl | rfl <;> rfl) (by decide) (by unfold maxLen; omega) (by omega) (by simp; omega) (w2.heap.size + 1) (by simp) ?_; intro g4 cap4 w4 hown4 hgrow4 hat4 hlt4; have bq := hgrow4.cell (v := .slice q m dd) (a := ⟨wr.heap.size, 0, none⟩) (cell_later ((Below.refl _ _).alloc (Nat.le_refl _) _) e3) hTb; have bq' := hgrow4.cell (v := .int .i64 x) (a := ⟨wr.heap.size, 1, none⟩) (cell_later ((Below.refl _ _).alloc (Nat.le_refl _) _) e4) hTb; obtain ⟨s1, s2, hv4⟩ := hvV.drew.pushed hb2 HM.out ho2 hown4 hgrow4 hat4 hlt4
        refine hK.out _ _ ?_ (fun hHeld' => ?_)
        · (try dsimp only)
          exact ⟨bq, bq'⟩
        clear hK K hHeld
        have hHeld := hHeld'
        clear hHeld'
        (try simp only [Act.put, List.setIfInBounds_toArray, List.set_cons_zero, List.set_cons_succ])
        refine wpAnyH_take (i := 10) (oi := ?_) (v := ?_) ?_ (by kernel_rfl) (by kernel_rfl) (by kernel_rfl) ?_ (Or.inl ⟨?_, ?_⟩) (by assumption) ?_
        rotate_left 2
        · (simp only [List.getElem?_toArray, List.getElem?_cons_zero, List.getElem?_cons_succ]; rfl)
        · exact fun _ _ _ h => h
        · rfl
        · (intro wS hSw; (try dsimp only at hSw); go_simp; (try with_reducible rfl))
        (try simp only [Act.put, List.setIfInBounds_toArray, List.set_cons_zero, List.set_cons_succ])
        refine wpAnyH_ready (rs := [11]) (by kernel_rfl) (by simp) ?_
        refine AllReadyH.cons (o := ?_) ?_ (fun K hK => ?_) AllReadyH.nil
        rotate_left
        · (simp only [List.getElem?_toArray, List.getElem?_cons_zero, List.getElem?_cons_succ]; rfl)
        go_simp
        skip
        (try go_wp2_with fail)
        refine hK.out _ _ ?_ (fun hHeld' => ?_)
        · (try dsimp only)
          exact ⟨keep_far bq (by omega), keep_far bq' (by omega)⟩
        clear hK K hHeld
        have hHeld := hHeld'
        clear hHeld'
        (try simp only [Act.put, List.setIfInBounds_toArray, List.set_cons_zero, List.set_cons_succ])
        refine wpAnyH_done (by kernel_rfl) ?_ _
        have HB := Hid.mk (hvV.drew.pushed_below (v := .slice (some ⟨g4, 0, none⟩) (k + 1) cap4) hb2 hgrow4 BW.drew (Nat.le_refl _))
        rw [← HS.out] at hv4
        have HV := Hid.mk hv4
        clear hv4 hown4 hgrow4 hvV BW s1 s2 bq bq' e3 e4 u1 hv2 ho2 hb2 t1 f1 c3 c4 hHeld
        go_wp2
        go_roundw
        case rel => exact ⟨k + 1, _, _, _, by omega, by go_num, HV.out, HB.out⟩
        case measure => simp [intOf]; omega
      refine AllReadyH.cons (o := ?_) ?_ (fun K hK => ?_) AllReadyH.nil
      rotate_left
      · (simp only [List.getElem?_toArray, List.getElem?_cons_zero, List.getElem?_cons_succ]; rfl)
      · go_simp
        go_at_call 71; refine (l2OwnRow_any _ _ _ ys _ HM.out hgk hnil hatV.drew).mono ?_; rintro e w2 ⟨r2, d2, rfl, ho2, hb2⟩; have e3 := cell_later hb2 c3; have e4 := cell_later hb2 c4; have u1 := cell_later hb2 t1
        (try go_wp2_with fail)
        refine hK.out _ _ ?_ (fun hHeld' => ?_)
        · (try dsimp only)
          exact ⟨e3, e4⟩
        clear hK K hHeld
        have hHeld := hHeld'
        clear hHeld'
        (try simp only [Act.put, List.setIfInBounds_toArray, List.set_cons_zero, List.set_cons_succ])
        have hv2 := hvV.drew.below hb2
        have z2 : V.heap.size ≤ w2.heap.size := hb2.size
        have hTb : some wr.heap.size ≠ (Value.slice r k d).ownBlock := HTB.out
        refine wpAnyH_take (i := 7) (oi := ?_) (v := ?_) ?_ (by kernel_rfl) (by kernel_rfl) (by kernel_rfl) ?_ (Or.inl ⟨?_, ?_⟩) (by assumption) ?_
        rotate_left 2
        · (simp only [List.getElem?_toArray, List.getElem?_cons_zero, List.getElem?_cons_succ]; rfl)
        · exact fun _ _ _ h => h
        · rfl
        · (intro wS hSw; (try dsimp only at hSw); go_simp; (try with_reducible rfl))
        (try simp only [Act.put, List.setIfInBounds_toArray, List.set_cons_zero, List.set_cons_succ])
        refine wpAnyH_ready (rs := [1, 8]) (by kernel_rfl) (by simp) ?_
        refine AllReadyH.cons (o := ?_) ?_ (fun K hK => ?_) ?_
        rotate_left
        · (simp only [List.getElem?_toArray, List.getElem?_cons_zero, List.getElem?_cons_succ]; rfl)
        · go_simp
          (try go_wp2_with fail)
          refine hK.out _ _ ?_ (fun hHeld' => ?_)
          · (try dsimp only)
            exact ⟨e3, e4⟩
          clear hK K hHeld
          have hHeld := hHeld'
          clear hHeld'
          (try simp only [Act.put, List.setIfInBounds_toArray, List.set_cons_zero, List.set_cons_succ])
          refine wpAnyH_ready (rs := [8]) (by kernel_rfl) (by simp) ?_
          refine AllReadyH.cons (o := ?_) ?_ (fun K hK => ?_) AllReadyH.nil
          rotate_left
          · (simp only [List.getElem?_toArray, List.getElem?_cons_zero, List.getElem?_cons_succ]; rfl)
          go_simp
          skip
          (try go_wp2_with fail)
          refine hK.out _ _ ?_ (fun hHeld' => ?_)
          · (try dsimp only)
            exact ⟨cell_later ((Below.refl _ _).alloc (Nat.le_refl _) _) e3, cell_later ((Below.refl _ _).alloc (Nat.le_refl _) _) e4⟩
          clear hK K hHeld
          have hHeld := hHeld'
          clear hHeld'
          (try simp only [Act.put, List.setIfInBounds_toArray, List.set_cons_zero, List.set_cons_succ])
          refine wpAnyH_ready (rs := [9]) (by kernel_rfl) (by simp) ?_
          refine AllReadyH.cons (o := ?_) ?_ (fun K hK => ?_) AllReadyH.nil
          rotate_left
          · (simp only [List.getElem?_toArray, List.getElem?_cons_zero, List.getElem?_cons_succ]; rfl)
          refine step_append_lies _ rfl (.tmp 18) (.tmp 25) 43 rfl (w.heap.size + 1 + 1) 107 i0 (.agg #[.slice none 0 0, .int .i64 0]) 2 32 Try.underlying43 hi hz0 hz1 hz2 rfl (by decide) (.slice r k d) k cells (by simp [Act.eval]) (hv2.own.alloc _) ⟨w2.heap.size, 0, none⟩ 1 1 [.slice r2 m d2, .int .i64 x] (by simp [Act.eval]) rfl (by simpa using news_at w2 #[.slice r2 m d2, .int .i64 x] 107) (by intro u hu; simp at hu; rcases hu with rfl | rfl <;> rfl) (by decide) (by unfold maxLen; omega) (by omega) (by simp; omega) (w2.heap.size + 1) (by simp) ?_; intro g4 cap4 w4 hown4 hgrow4 hat4 hlt4; have bq := hgrow4.cell (v := .slice q m dd) (a := ⟨wr.heap.size, 0, none⟩) (cell_later ((Below.refl _ _).alloc (Nat.le_refl _) _) e3) hTb; have bq' := hgrow4.cell (v := .int .i64 x) (a := ⟨wr.heap.size, 1, none⟩) (cell_later ((Below.refl _ _).alloc (Nat.le_refl _) _) e4) hTb; obtain ⟨s1, s2, hv4⟩ := hvV.drew.pushed hb2 HM.out ho2 hown4 hgrow4 hat4 hlt4
          refine hK.out _ _ ?_ (fun hHeld' => ?_)
          · (try dsimp only)
            exact ⟨bq, bq'⟩
          clear hK K hHeld
          have hHeld := hHeld'
          clear hHeld'
          (try simp only [Act.put, List.setIfInBounds_toArray, List.set_cons_zero, List.set_cons_succ])
          refine wpAnyH_take (i := 10) (oi := ?_) (v := ?_) ?_ (by kernel_rfl) (by kernel_rfl) (by kernel_rfl) ?_ (Or.inl ⟨?_, ?_⟩) (by assumption) ?_
          rotate_left 2
          · (simp only [List.getElem?_toArray, List.getElem?_cons_zero, List.getElem?_cons_succ]; rfl)
          · exact fun _ _ _ h => h
          · rfl
          · (intro wS hSw; (try dsimp only at hSw); go_simp; (try with_reducible rfl))
          (try simp only [Act.put, List.setIfInBounds_toArray, List.set_cons_zero, List.set_cons_succ])
          refine wpAnyH_ready (rs := [11]) (by kernel_rfl) (by simp) ?_
          refine AllReadyH.cons (o := ?_) ?_ (fun K hK => ?_) AllReadyH.nil
          rotate_left
          · (simp only [List.getElem?_toArray, List.getElem?_cons_zero, List.getElem?_cons_succ]; rfl)
          go_simp
          skip
          (try go_wp2_with fail)
          refine hK.out _ _ ?_ (fun hHeld' => ?_)
          · (try dsimp only)
            exact ⟨keep_far bq (by omega), keep_far bq' (by omega)⟩
          clear hK K hHeld
          have hHeld := hHeld'
          clear hHeld'
          (try simp only [Act.put, List.setIfInBounds_toArray, List.set_cons_zero, List.set_cons_succ])
          refine wpAnyH_done (by kernel_rfl) ?_ _
          have HB := Hid.mk (hvV.drew.pushed_below (v := .slice (some ⟨g4, 0, none⟩) (k + 1) cap4) hb2 hgrow4 BW.drew (Nat.le_refl _))
          rw [← HS.out] at hv4
          have HV := Hid.mk hv4
          clear hv4 hown4 hgrow4 hvV BW s1 s2 bq bq' e3 e4 u1 hv2 ho2 hb2 t1 f1 c3 c4 hHeld
          go_wp2
          go_roundw
          case rel => exact ⟨k + 1, _, _, _, by omega, by go_num, HV.out, HB.out⟩
          case measure => simp [intOf]; omega
        refine AllReadyH.cons (o := ?_) ?_ (fun K hK => ?_) AllReadyH.nil
        rotate_left
        · (simp only [List.getElem?_toArray, List.getElem?_cons_zero, List.getElem?_cons_succ]; rfl)
        · go_simp
          (try go_wp2_with fail)
          refine hK.out _ _ ?_ (fun hHeld' => ?_)
          · (try dsimp only)
            exact ⟨cell_later ((Below.refl _ _).alloc (Nat.le_refl _) _) e3, cell_later ((Below.refl _ _).alloc (Nat.le_refl _) _) e4⟩
          clear hK K hHeld
          have hHeld := hHeld'
          clear hHeld'
          (try simp only [Act.put, List.setIfInBounds_toArray, List.set_cons_zero, List.set_cons_succ])
          have u2 := cell_later ((Below.refl _ _).alloc (Nat.le_refl _) (.cells #[.slice r2 m d2, .int .i64 x] 107)) u1
          refine wpAnyH_ready (rs := [1]) (by kernel_rfl) (by simp) ?_
          refine AllReadyH.cons (o := ?_) ?_ (fun K hK => ?_) AllReadyH.nil
          rotate_left
          · (simp only [List.getElem?_toArray, List.getElem?_cons_zero, List.getElem?_cons_succ]; rfl)
          go_simp
          skip
          (try go_wp2_with fail)
          refine hK.out _ _ ?_ (fun hHeld' => ?_)
          · (try dsimp only)
            exact ⟨cell_later ((Below.refl _ _).alloc (Nat.le_refl _) _) e3, cell_later ((Below.refl _ _).alloc (Nat.le_refl _) _) e4⟩
          clear hK K hHeld
          have hHeld := hHeld'
          clear hHeld'
          (try simp only [Act.put, List.setIfInBounds_toArray, List.set_cons_zero, List.set_cons_succ])
          refine wpAnyH_ready (rs := [9]) (by kernel_rfl) (by simp) ?_
          refine AllReadyH.cons (o := ?_) ?_ (fun K hK => ?_) AllReadyH.nil
          rotate_left
          · (simp only [List.getElem?_toArray, List.getElem?_cons_zero, List.getElem?_cons_succ]; rfl)
          refine step_append_lies _ rfl (.tmp 18) (.tmp 25) 43 rfl (w.heap.size + 1 + 1) 107 i0 (.agg #[.slice none 0 0, .int .i64 0]) 2 32 Try.underlying43 hi hz0 hz1 hz2 rfl (by decide) (.slice r k d) k cells (by simp [Act.eval]) (hv2.own.alloc _) ⟨w2.heap.size, 0, none⟩ 1 1 [.slice r2 m d2, .int .i64 x] (by simp [Act.eval]) rfl (by simpa using news_at w2 #[.slice r2 m d2, .int .i64 x] 107) (by intro u hu; simp at hu; rcases hu with rfl | rfl <;> rfl) (by decide) (by unfold maxLen; omega) (by omega) (by simp; omega) (w2.heap.size + 1) (by simp) ?_; intro g4 cap4 w4 hown4 hgrow4 hat4 hlt4; have bq := hgrow4.cell (v := .slice q m dd) (a := ⟨wr.heap.size, 0, none⟩) (cell_later ((Below.refl _ _).alloc (Nat.le_refl _) _) e3) hTb; have bq' := hgrow4.cell (v := .int .i64 x) (a := ⟨wr.heap.size, 1, none⟩) (cell_later ((Below.refl _ _).alloc (Nat.le_refl _) _) e4) hTb; obtain ⟨s1, s2, hv4⟩ := hvV.drew.pushed hb2 HM.out ho2 hown4 hgrow4 hat4 hlt4
          refine hK.out _ _ ?_ (fun hHeld' => ?_)
          · (try dsimp only)
            exact ⟨bq, bq'⟩
          clear hK K hHeld
          have hHeld := hHeld'
          clear hHeld'
          (try simp only [Act.put, List.setIfInBounds_toArray, List.set_cons_zero, List.set_cons_succ])
          refine wpAnyH_take (i := 10) (oi := ?_) (v := ?_) ?_ (by kernel_rfl) (by kernel_rfl) (by kernel_rfl) ?_ (Or.inl ⟨?_, ?_⟩) (by assumption) ?_
          rotate_left 2
          · (simp only [List.getElem?_toArray, List.getElem?_cons_zero, List.getElem?_cons_succ]; rfl)
          · exact fun _ _ _ h => h
          · rfl
          · (intro wS hSw; (try dsimp only at hSw); go_simp; (try with_reducible rfl))
          (try simp only [Act.put, List.setIfInBounds_toArray, List.set_cons_zero, List.set_cons_succ])
          refine wpAnyH_ready (rs := [11]) (by kernel_rfl) (by simp) ?_
          refine AllReadyH.cons (o := ?_) ?_ (fun K hK => ?_) AllReadyH.nil
          rotate_left
          · (simp only [List.getElem?_toArray, List.getElem?_cons_zero, List.getElem?_cons_succ]; rfl)
          go_simp
          skip
          (try go_wp2_with fail)
          refine hK.out _ _ ?_ (fun hHeld' => ?_)
          · (try dsimp only)
            exact ⟨keep_far bq (by omega), keep_far bq' (by omega)⟩
          clear hK K hHeld
          have hHeld := hHeld'
          clear hHeld'
          (try simp only [Act.put, List.setIfInBounds_toArray, List.set_cons_zero, List.set_cons_succ])
          refine wpAnyH_done (by kernel_rfl) ?_ _
          have HB := Hid.mk (hvV.drew.pushed_below (v := .slice (some ⟨g4, 0, none⟩) (k + 1) cap4) hb2 hgrow4 BW.drew (Nat.le_refl _))
          rw [← HS.out] at hv4
          have HV := Hid.mk hv4
          clear hv4 hown4 hgrow4 hvV BW s1 s2 bq bq' e3 e4 u1 hv2 ho2 hb2 t1 f1 c3 c4 hHeld
          go_wp2
          go_roundw
          case rel => exact ⟨k + 1, _, _, _, by omega, by go_num, HV.out, HB.out⟩
          case measure => simp [intOf]; omega
    · obtain rfl : k = n := by omega
      rw [wtake_all' ts hz] at hv
      have e0 := (hbw.cell (p := ⟨w.heap.size, 0, none⟩) (by simp)).trans (show W.cell? ⟨w.heap.size, 0, none⟩ = some (.int .i64 0) by rw [cell_of_row W _ 0 _ _ (0, 0) q0]; rfl)
      have e1 := (hbw.cell (p := ⟨w.heap.size, 1, none⟩) (by simp)).trans (show W.cell? ⟨w.heap.size, 1, none⟩ = some (.slice none 0 0) by rw [cell_of_row W _ 1 _ _ (0, 0) q0]; rfl)
      have f0 := (hbw.frozen (p := ⟨w.heap.size, 0, none⟩) (by simp)).trans (frozen_of_row W _ 0 _ _ q0)
      have f1 := (hbw.frozen (p := ⟨w.heap.size, 1, none⟩) (by simp)).trans (frozen_of_row W _ 1 _ _ q0)
      have t0 := hv.cell0
      have t1 := hv.cell1
      have HW : AtW wr r ts := hv.2.atW (fun i hi => by have := hgr i hi; omega)
      go_wp2_with fail
      refine (specGoodTable_any _ _ _ ts p _ hz (by omega) HW).mono ?_
      rintro e w2 ⟨rfl, hb2⟩
      have g0 := cell_later hb2 e0
      have g1 := cell_later hb2 e1
      have k0 := frozen_later hb2 e0 f0
      have k1 := frozen_later hb2 e1 f1
      have s0 := cell_later hb2 t0
      have s1 := cell_later hb2 t1
      have hv2 := hv.below hb2
      have B3 := B2.trans (hb2.mono B2.size)
      clear e0 e1 f0 f1 t0 t1 hv HW HA hb2 hbw q0 ha
      cases hg : goodT p ts with
      | false =>
        have HG := Hid.mk hg
        clear hg
        go_wp2
        refine bodyPost_ret (v := .tuple #[.agg #[.int .i64 0, .slice none 0 0], .bool false]) (by simp [results, Try.results45, go_sem, g0, g1]) rfl ⟨⟨none, 0, 0, [], ?_, ?_⟩, ?_⟩
        · simp [tellP, HG.out]
        · simp only [tellT, HG.out]
          exact OwnWk.start rfl (Nat.le_refl _) (World.ownsRow_nil _ _ _ _) (fun b hb => by cases hb)
        · exact (B3.setCell (by simp) _).setCell (by simp) _
      | true =>
        have HG := Hid.mk hg
        clear hg
        go_wp2
        refine bodyPost_ret (v := .tuple #[.agg #[.int .i64 p, .slice r k d], .bool true]) (by simp [results, Try.results45, go_sem, g0, g1]) rfl ⟨⟨r, k, d, cells, ?_, ?_⟩, ?_⟩
        · simp [tellP, HG.out]
        · simp only [tellT, HG.out, if_true]
          exact ((hv2.2.setCell (a0 := ⟨w.heap.size, 0, none⟩) (.inl (by simp; omega)) _).setCell (a0 := ⟨w.heap.size, 1, none⟩) (.inl (by simp; omega)) _).widen (by omega) (by simp [World.setCell]) (Nat.le_refl _)
        · exact (B3.setCell (by simp) _).setCell (by simp) _

end Go.Proofs.Ythliamoeplgblaa

/- Plain facts on tables that are good, and on a result's variable behind 'return f(..)'. -/
namespace Go.Proofs.Ythliamoeplgblaa
open Go.RowKit

theorem OwnWk.stored {w : World} {lo hi R : Nat} {te ti : TypeId} {a : Option Addr} {n c : Nat} {ts : List WRow} {cells : List Value} {lo' : Nat} (h : OwnW w lo hi te ti a n c ts cells) (hR : R < lo) (hlo : lo' ≤ lo) (u v : Value) :
    OwnW ((w.setCell ⟨R, 0, none⟩ u).setCell ⟨R, 1, none⟩ v) lo' ((w.setCell ⟨R, 0, none⟩ u).setCell ⟨R, 1, none⟩ v).heap.size te ti a n c ts cells :=
  ((h.setCell (a0 := ⟨R, 0, none⟩) (.inl hR) u).setCell (a0 := ⟨R, 1, none⟩) (.inl hR) v).widen hlo (by have := h.top; simp [World.setCell]; omega) (Nat.le_refl _)
theorem alloc_keeps {w : World} {a : Addr} {v : Value} (h : w.cell? a = some v) (o : Obj) : (w.alloc o).cell? a = some v := cell_later ((Below.refl _ _).alloc (Nat.le_refl _) o) h
theorem goodT_noZero {p : Int} {ts : List WRow} (h : goodT p ts = true) : NoZero ts := fun t ht => by
  obtain ⟨k, hk, rfl⟩ := List.getElem_of_mem ht
  have := (goodT_parts h).2.2 k hk
  simp only [stepB, Bool.and_eq_true, Bool.not_eq_true', decide_eq_false_iff_not] at this
  have e : wat ts k = ts[k] := by simp [wat, List.getD, hk]
  rw [e] at this
  exact this.2.1
theorem goodT_len60 {p : Int} {ts : List WRow} (h : goodT p ts = true) : ts.length ≤ 60 := (goodT_parts h).2.1
theorem goodT_cells {p : Int} {ts : List WRow} (h : goodT p ts = true) (k : Nat) (hk : k < ts.length) : good (wat ts k).1 = true ∧ -1000000 ≤ (wat ts k).2 ∧ (wat ts k).2 ≤ 1000000 := by
  have := goodW_cells (goodL_at (goodL_of_goodT h) k hk)
  exact ⟨this.1, this.2.2⟩
theorem goodT_mem {q : Nat} {ts : List WRow} (h : goodT q ts = true) : ∀ t ∈ ts, good t.1 = true ∧ t.1.length = q := fun t ht => by
  have := goodL_mem (goodL_of_goodT h) t ht
  exact ⟨this.1, by omega⟩
theorem goodT_six {p : Int} {ts : List WRow} (h : goodT p ts = true) : ∀ t ∈ ts, t.1.length ≤ 6 ∧ -1000000 ≤ t.2 ∧ t.2 ≤ 1000000 := fun t ht => by
  have := goodL_mem (goodL_of_goodT h) t ht
  exact ⟨good_len this.1, this.2.2⟩
theorem at_of_mem {ts : List WRow} {Q : WRow → Prop} (h : ∀ t ∈ ts, Q t) (k : Nat) (hk : k < ts.length) : Q (wat ts k) := h _ (wat_mem hk)

/-- A rising list that has no zeros tells its own weights. -/
theorem tells_self {q : Nat} {us : List WRow} (hr : Rises us) (hn : NoZero us) (hrow : ∀ t ∈ us, good t.1 = true ∧ t.1.length = q) : Tells q (sumAt us us.length 1) us :=
  ⟨hr, hn, hrow, fun zs h1 _ => by rw [sumAt_sumW rfl 1 (fun t ht => (hrow t ht).1) h1, sumW_rises hr]; omega⟩
/-- Some of its rows, the rows as they are, rise. -/
theorem rises_some {g : WRow → Option WRow} (hg : ∀ t s, g t = some s → s.1 = t.1) {ts : List WRow} (h : Rises ts) : Rises (ts.filterMap g) := by
  unfold Rises at *
  rw [List.pairwise_filterMap]
  exact h.imp fun {a b} hab s hs t ht => by rw [hg a s hs, hg b t ht]; exact hab
theorem some_mem {g : WRow → Option WRow} {ts : List WRow} {t : WRow} (h : t ∈ ts.filterMap g) : ∃ s ∈ ts, g s = some t := List.mem_filterMap.1 h

end Go.Proofs.Ythliamoeplgblaa

/- Contract of impl.GoodTable. -/
namespace Go.Proofs.Ythliamoeplgblaa
open Go.RowKit

end Go.Proofs.Ythliamoeplgblaa

/- Contracts of impl.plainRows, spec.l3Distinct. -/
namespace Go.Proofs.Ythliamoeplgblaa
open Go.RowKit Go.Shelf

/-- The rows that are there, once. -/
def distW (ts : List WRow) : List WRow := ts.filterMap plainG
def distB (p : Int) (ts : List WRow) : Bool := goodT p ts && goodT p (distW ts)
theorem distB_no {p : Int} {ts : List WRow} (h : goodT p ts = false) : distB p ts = false := by simp [distB, h]
theorem distB_yes {p : Int} {ts : List WRow} (h : goodT p ts = true) : distB p ts = goodT p (distW ts) := by simp [distB, h]
theorem plainG_some {t s : WRow} (h : plainG t = some s) : s = (t.1, 1) ∧ 0 < t.2 := by
  unfold plainG at h
  split at h
  · exact ⟨by simpa using h.symm, by assumption⟩
  · cases h
theorem tells_dist {q : Nat} {ts : List WRow} (h : goodT q ts = true) : Tells q (sumAt (distW ts) (distW ts).length 1) (distW ts) :=
  tells_self (rises_some (fun t s hs => by rw [(plainG_some hs).1]) (goodT_rises h)) (fun t ht => by obtain ⟨s, hs, e⟩ := some_mem ht; rw [(plainG_some e).1]; simp) (fun t ht => by obtain ⟨s, hs, e⟩ := some_mem ht; rw [(plainG_some e).1]; exact goodT_mem h s hs)
theorem distW_len (ts : List WRow) : (distW ts).length ≤ ts.length := List.length_filterMap_le _ _
theorem distW_ok {p : Int} {ts : List WRow} (h : goodT p ts = true) : ∀ t ∈ distW ts, good t.1 = true ∧ -1000000000000 ≤ t.2 ∧ t.2 ≤ 1000000000000 := fun t ht => by
  obtain ⟨s, hs, e⟩ := some_mem ht
  rw [(plainG_some e).1]
  exact ⟨(goodL_mem (goodL_of_goodT h) s hs).1, by simp, by simp⟩

theorem distW_take (ts : List WRow) (k : Nat) (h : k < ts.length) : distW (ts.take (k + 1)) = distW (ts.take k) ++ (plainG (wat ts k)).toList := by
  unfold distW
  rw [wtake_succ ts k h, List.filterMap_append, List.filterMap_cons]
  cases plainG (wat ts k) <;> rfl

set_option maxRecDepth 100000 in
set_option maxHeartbeats 4000000 in
theorem l3Distinct_any (a : Option Addr) (n c : Nat) (ts : List WRow) (w : World) (hz : ts.length = n) (hn : n ≤ 2048) (hg : ∀ s ∈ ts, s.1.length ≤ 6) (ha : AtM w a ts) :
    Calls Try.prog 46 #[.slice a n c] w fun e w' => ∃ r k d, e = .returned (.slice r k d) ∧ (distW ts).length = k ∧ AtM w' r (distW ts) ∧ Below w.heap.size w w' := by
  obtain ⟨i0, hi, hz0, hz1, hz2⟩ := info_parts Try.infoW
  go_enter Try.func46, Try.ntmps46
  go_wp2
  go_loopw [3, 8] (fun o i wr => ∃ (k m : Nat) (r : Option Addr) (d : Nat) (cs : List Value), k ≤ n ∧ m ≤ k ∧ i = .int .i64 k ∧ o = .slice r m d ∧ (distW (ts.take k)).length = m ∧ wr.ownsRow w.heap.size 107 2 (.slice r m d) m cs ∧ Means w cs (distW (ts.take k)) ∧ Below w.heap.size w wr) (fun _ i _ => n - (intOf i).toNat)
  case atStart => exact ⟨0, 0, none, 0, [], Nat.zero_le _, Nat.le_refl _, rfl, rfl, rfl, World.ownsRow_nil _ _ _ _, trivial, Below.refl _ _⟩
  case round =>
    obtain ⟨k, m, r, d, cs, hk, hmk, rfl, rfl, hml, ho, hme, hbw⟩ := hrel
    by_cases hlt : k < n
    · obtain ⟨b, off, rfl, hc⟩ := ha.some (by omega)
      obtain ⟨q, dd, hcx, hwx, hm1, hnil, hat⟩ := hc k (by omega)
      have hgk := at_of_mem hg k (by omega)
      have HS := Hid.mk (distW_take ts k (by omega))
      have hki : (k : Int) < (n : Int) := by omega
      generalize wat ts k = Y at *
      obtain ⟨ys, x⟩ := Y
      simp only at hcx hwx hat hm1 hgk
      obtain ⟨m2, hmm⟩ : ∃ m2, ys.length = m2 := ⟨_, rfl⟩
      rw [hmm] at hcx hm1 hgk
      have HM := Hid.mk hmm
      have HATW := Hid.mk hat
      have hcx := cell_later hbw hcx
      have hwx := cell_later hbw hwx
      have zz := hbw.size
      clear hmm hc hat
      by_cases hx : 0 < x
      · have HSX : Hid (distW (ts.take (k + 1)) = distW (ts.take k) ++ [(ys, 1)]) := by show _ = _; rw [HS.out]; unfold plainG; rw [if_pos hx]; rfl
        have oV := ho.alloc (.cells #[.slice q m2 dd, .int .i64 x] 107)
        go_wp2_with (at_builtin; refine wpList_append_lies _ rfl (.tmp 15) (.tmp 19) 43 rfl w.heap.size 107 i0 (.agg #[.slice none 0 0, .int .i64 0]) 2 32 Try.underlying43 hi hz0 hz1 hz2 rfl (by decide) (.slice r m d) m cs rfl (oV.alloc _) ⟨wr.heap.size + 1, 0, none⟩ 1 1 [.slice q m2 dd, .int .i64 1] (by simp [Act.eval]) rfl (by simpa using news_at (wr.alloc (.cells #[.slice q m2 dd, .int .i64 x] 107)) #[.slice q m2 dd, .int .i64 1] 107) (by intro u hu; simp at hu; rcases hu with rfl | rfl <;> rfl) (by decide) (by unfold maxLen; omega) (by omega) (by simp; omega) (wr.heap.size + 1 + 1) (by simp) ?_; intro g2 cap2 w4 hown4 hgrow4 hat4 hlt4)
        have hgr : wr.grownBy w4 (Value.slice r m d).ownBlock := grown_alloc (grown_alloc hgrow4)
        have HB := Hid.mk (hbw.grown hgr hbw.size (fun j hj => (ho.lt j hj).1))
        have HO := Hid.mk hown4
        have HME : Hid (Means w (cs ++ [.slice q m2 dd, .int .i64 1]) (distW (ts.take (k + 1)))) := by
          show Means _ _ _
          rw [HSX.out]
          exact hme.append (Means.one HM.out (by omega) hnil HATW.out)
        have HL : Hid ((distW (ts.take (k + 1))).length = m + 1) := by show _ = _; rw [HSX.out, List.length_append, hml]; rfl
        clear hown4 hgrow4 hat4 hlt4 hgr ho hme hbw hcx hwx oV hml
        go_wp2
        go_roundw
        case rel => exact ⟨k + 1, m + 1, _, _, _, by omega, by omega, by go_num, rfl, HL.out, HO.out, HME.out, HB.out⟩
        case measure => simp [intOf]; omega
      · have HSX : Hid (distW (ts.take (k + 1)) = distW (ts.take k)) := by show _ = _; rw [HS.out]; unfold plainG; rw [if_neg hx]; simp
        have hxx : x ≤ 0 := by omega
        have HO := Hid.mk (ho.alloc (.cells #[.slice q m2 dd, .int .i64 x] 107))
        have HB := Hid.mk (hbw.alloc hbw.size (.cells #[.slice q m2 dd, .int .i64 x] 107))
        have HL : Hid ((distW (ts.take (k + 1))).length = m) := by show _ = _; rw [HSX.out, hml]
        have HME : Hid (Means w cs (distW (ts.take (k + 1)))) := by show Means _ _ _; rw [HSX.out]; exact hme
        clear ho hme hbw hml
        go_wp2
        go_roundw
        case rel => exact ⟨k + 1, m, _, _, _, by omega, by omega, by go_num, rfl, HL.out, HO.out, HME.out, HB.out⟩
        case measure => simp [intOf]; omega
    · obtain rfl : k = n := by omega
      rw [wtake_all' ts hz] at hme hml
      go_wp2
      go_ret
      exact ⟨_, _, _, rfl, hml, (hme.below hbw).ownedM hml ho, hbw⟩

end Go.Proofs.Ythliamoeplgblaa

/- Plain: good tableaus. -/
namespace Go.Proofs.Ythliamoeplgblaa

def rowOk (C : Int) (z : List Int) : Bool := good z && decide ((z.length : Int) = C) && z.all (fun x => decide (0 ≤ x))
/-- A tableau of C columns that is good. -/
def tbB (C : Int) (zss : List (List Int)) : Bool := (decide (1 ≤ C) && decide (C ≤ 6)) && (decide (1 ≤ zss.length) && decide (zss.length ≤ 8)) && zss.all (rowOk C)

theorem rowOk_good {C : Int} {z : List Int} (h : rowOk C z = true) : good z = true := by simp [rowOk] at h; exact h.1.1
theorem rowOk_len {C : Int} {z : List Int} (h : rowOk C z = true) : (z.length : Int) = C := by simp [rowOk] at h; exact h.1.2
theorem rowOk_cell {C : Int} {z : List Int} (h : rowOk C z = true) (k : Nat) (hk : k < z.length) : 0 ≤ z.getD k 0 ∧ z.getD k 0 ≤ 100000 := by
  have h1 := good_cell (rowOk_good h) k hk
  simp [rowOk] at h
  have h2 := h.2 z[k] (List.getElem_mem hk)
  refine ⟨?_, h1.2⟩
  simpa [List.getD, hk] using h2
theorem rowOk_of {C : Int} {z : List Int} (hg : good z = true) (hl : (z.length : Int) = C) (h : ∀ k, k < z.length → 0 ≤ z.getD k 0) : rowOk C z = true := by
  simp only [rowOk, hg, Bool.true_and, Bool.and_eq_true, decide_eq_true_eq, List.all_eq_true]
  refine ⟨hl, fun x hx => ?_⟩
  obtain ⟨k, hk, rfl⟩ := List.getElem_of_mem hx
  simpa [List.getD, hk] using h k hk
theorem tbB_C {C : Int} {zss : List (List Int)} (h : tbB C zss = true) : 1 ≤ C ∧ C ≤ 6 := by simp [tbB] at h; exact h.1.1
theorem tbB_n {C : Int} {zss : List (List Int)} (h : tbB C zss = true) : 1 ≤ zss.length ∧ zss.length ≤ 8 := by simp [tbB] at h; exact h.1.2
theorem tbB_row {C : Int} {zss : List (List Int)} (h : tbB C zss = true) {k : Nat} {z : List Int} (hz : zss[k]? = some z) : rowOk C z = true := by
  have h1 : zss.all (rowOk C) = true := by simp only [tbB, Bool.and_eq_true] at h; exact h.2
  exact List.all_eq_true.1 h1 z (List.mem_of_getElem? hz)
theorem tbB_of {C : Int} {zss : List (List Int)} (h1 : 1 ≤ C ∧ C ≤ 6) (h2 : 1 ≤ zss.length ∧ zss.length ≤ 8) (h : ∀ z ∈ zss, rowOk C z = true) : tbB C zss = true := by
  simp only [tbB, Bool.and_eq_true, decide_eq_true_eq, List.all_eq_true]
  exact ⟨⟨h1, h2⟩, h⟩
theorem all_drop {α : Type} {p : α → Bool} {xs : List α} {k : Nat} {x : α} (h : xs[k]? = some x) : (xs.drop k).all p = (p x && (xs.drop (k + 1)).all p) := by
  obtain ⟨hk, rfl⟩ := List.getElem?_eq_some_iff.1 h
  rw [List.drop_eq_getElem_cons hk, List.all_cons]
theorem tbB_sum {C : Int} {zss : List (List Int)} (h : tbB C zss = true) : ∀ z ∈ zss, z.length ≤ 6 := fun z hz => by
  obtain ⟨k, hk, rfl⟩ := List.getElem_of_mem hz
  exact good_len (rowOk_good (tbB_row h (List.getElem?_eq_getElem hk)))

end Go.Proofs.Ythliamoeplgblaa
