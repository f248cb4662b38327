/- Several texts of one proof, in build order: L2Tell, TableM, TableE, TellP, MapA, WSum, LawG, TabU, ScaleP, SpecA. -/
import Derived.Test.YtlfljfmhhnoinabM9
import Derived.Test.YtlfljfmhhnoinabM10
import Derived.Test.YtlfljfmhhnoinabM5
import Derived.Test.YtlfljfmhhnoinabM7
import Derived.Test.YtlfljfmhhnoinabM2
import Derived.WideKeyEntry
import Derived.Deep.RegionHeld3
import Derived.Deep.DeepCutAuto

/- Contract of spec.l2Tell. -/
namespace Go.Proofs.Ytlfljfmhhnoinab
open Go.RowKit

theorem wtake_all' (ts : List WRow) {n : Nat} (h : ts.length = n) : ts.take n = ts := List.take_of_length_le (by omega)

set_option maxRecDepth 100000 in
set_option maxHeartbeats 8000000 in
theorem l2Tell_any (a : Option Addr) (n c : Nat) (ts : List WRow) (p : Int) (w : World) (hz : ts.length = n) (hn : n ≤ 1048576) (hgr : ∀ k, k < n → (wat ts k).1.length ≤ 1048576) (ha : AtM w a ts) :
    Calls Try.prog 74 #[.int .i64 p, .slice a n c] w fun e w' => TabRet e w' w.heap.size (goodT p ts) (tellP p ts) (tellT p ts) ∧ Below w.heap.size w w' := by
  obtain ⟨i0, hi, hz0, hz1, hz2⟩ := info_parts Try.infoW
  obtain ⟨W, hW⟩ : ∃ W, W = (w.alloc (.cells #[.int .i64 0, .slice none 0 0] 32)).alloc (.cells #[.int .i64 p, .slice none 0 0] 32) := ⟨_, rfl⟩
  have zW : W.heap.size = w.heap.size + 1 + 1 := by rw [hW]; simp
  have B0 : Below w.heap.size w W := by rw [hW]; exact ((Below.refl _ _).alloc (Nat.le_refl _) _).alloc (by simp) _
  have q0 : W.heap[w.heap.size]? = some (.cells #[.int .i64 0, .slice none 0 0] 32 (0, 0)) := by
    rw [hW]; exact (Below.heap_alloc _ _ _ (by simp)).trans (heap_alloc_new w _)
  have T0 : TabVar W (w.heap.size + 1) p none 0 0 [] [] := by rw [hW]; have := TabVar.new (w.alloc (.cells #[.int .i64 0, .slice none 0 0] 32)) p; rwa [World.size_alloc] at this
  go_enter Try.func74, Try.ntmps74
  go_wp2
  rw [← hW]
  clear hW
  go_loopw [13] (fun i wr => ∃ (k : Nat) (r : Option Addr) (d : Nat) (cells : List Value), k ≤ n ∧ i = .int .i64 k ∧ TabVar wr (w.heap.size + 1) p r k d (ts.take k) cells ∧ Below (w.heap.size + 1) W wr) (fun i _ => n - (intOf i).toNat)
  case atStart => exact ⟨0, none, 0, [], Nat.zero_le _, rfl, T0, Below.refl _ _⟩
  case round =>
    clear T0
    obtain ⟨k, r, d, cells, hk, rfl, hv, hbw⟩ := hrel
    have zR := hv.lt
    have B2 : Below w.heap.size w wr := B0.trans (hbw.mono (by omega))
    have HA := ha.below B2
    by_cases hlt : k < n
    · obtain ⟨b, off, rfl, hc⟩ := HA.some (by omega)
      obtain ⟨q, dd, hcx, hwx, hm, hnil, hat⟩ := hc k (by omega)
      have hgk := hgr k hlt
      have HS := Hid.mk (wtake_succ ts k (by omega))
      have hki : (k : Int) < (n : Int) := by omega
      generalize wat ts k = Y at *
      obtain ⟨ys, x⟩ := Y
      simp only at hcx hwx hat hm hgk
      obtain ⟨m, hmm⟩ : ∃ m, ys.length = m := ⟨_, rfl⟩
      rw [hmm] at hcx hm hgk
      have HM := Hid.mk hmm
      clear hmm hc
      obtain ⟨V, hV⟩ : ∃ V, V = wr.alloc (.cells #[.slice q m dd, .int .i64 x] 69) := ⟨_, rfl⟩
      have hbV : Below wr.heap.size wr V := by rw [hV]; exact (Below.refl _ _).alloc (Nat.le_refl _) _
      have c3 : V.cell? ⟨wr.heap.size, 0, none⟩ = some (.slice q m dd) := by rw [hV]; exact pair0 wr _ _ _
      have c4 : V.cell? ⟨wr.heap.size, 1, none⟩ = some (.int .i64 x) := by rw [hV]; exact pair1 wr _ _ _
      have hv0 := hv
      have hvV := hv.below hbV
      have hatV := hat.below hbV
      have BW : Below (w.heap.size + 1) W V := hbw.trans (hbV.mono (by omega))
      have zV : wr.heap.size < V.heap.size := World.block_lt_of_cell? _ _ c3
      have t1 := hvV.cell1
      have f1 := hvV.frozen1
      go_wp2_with fail
      rw [← hV]
      clear hV hcx hwx hat hbV hv hbw B2 HA

      have HTB : Hid (some wr.heap.size ≠ (Value.slice r k d).ownBlock) := fun e => by have := hvV.2.outerLt _ e.symm; have := (hv0.own.lt _ e.symm).2; omega
      refine wp_region_held_drew (S := fun w' => w'.cell? ⟨wr.heap.size, 0, none⟩ = some (.slice q m dd) ∧ w'.cell? ⟨wr.heap.size, 1, none⟩ = some (.int .i64 x)) (by kernel_rfl) ?_ (fun hHeld => ?_)
      · (try dsimp only)
        exact ⟨c3, c4⟩
      refine wpAnyH_take (i := 0) (oi := ?_) (v := ?_) ?_ (by kernel_rfl) (by kernel_rfl) (by kernel_rfl) ?_ (Or.inl ⟨?_, ?_⟩) (by assumption) ?_
      rotate_left 2
      · (simp only [List.getElem?_toArray, List.getElem?_cons_zero]; rfl)
      · exact fun _ _ _ h => h
      · rfl
      · (intro wS hSw; (try dsimp only at hSw); go_simp; (try with_reducible rfl))
      (try simp only [Act.put, List.setIfInBounds_toArray, List.set_cons_zero, List.set_cons_succ])
      refine wpAnyH_take (i := 2) (oi := ?_) (v := ?_) ?_ (by kernel_rfl) (by kernel_rfl) (by kernel_rfl) ?_ (Or.inl ⟨?_, ?_⟩) (by assumption) ?_
      rotate_left 2
      · (simp only [List.getElem?_toArray, List.getElem?_cons_zero, List.getElem?_cons_succ]; rfl)
      · exact fun _ _ _ h => h
      · rfl
      · (intro wS hSw; (try dsimp only at hSw); go_simp; (try with_reducible rfl))
      (try simp only [Act.put, List.setIfInBounds_toArray, List.set_cons_zero, List.set_cons_succ])
      refine wpAnyH_take (i := 3) (oi := ?_) (v := ?_) ?_ (by kernel_rfl) (by kernel_rfl) (by kernel_rfl) ?_ (Or.inl ⟨?_, ?_⟩) (by assumption) ?_
      rotate_left 2
      · (simp only [List.getElem?_toArray, List.getElem?_cons_zero, List.getElem?_cons_succ]; rfl)
      · exact fun _ _ _ h => h
      · rfl
      · (intro wS hSw; (try dsimp only at hSw); go_simp; (try with_reducible rfl))
      (try simp only [Act.put, List.setIfInBounds_toArray, List.set_cons_zero, List.set_cons_succ])
      refine wpAnyH_take (i := 5) (oi := ?_) (v := ?_) ?_ (by kernel_rfl) (by kernel_rfl) (by kernel_rfl) ?_ (Or.inl ⟨?_, ?_⟩) (by assumption) ?_
      rotate_left 2
      · (simp only [List.getElem?_toArray, List.getElem?_cons_zero, List.getElem?_cons_succ]; rfl)
      · exact fun _ _ _ h => h
      · rfl
      · (intro wS hSw; (try dsimp only at hSw); go_simp; (try with_reducible rfl))
      (try simp only [Act.put, List.setIfInBounds_toArray, List.set_cons_zero, List.set_cons_succ])
      refine wpAnyH_take (i := 6) (oi := ?_) (v := ?_) ?_ (by kernel_rfl) (by kernel_rfl) (by kernel_rfl) ?_ (Or.inl ⟨?_, ?_⟩) (by assumption) ?_
      rotate_left 2
      · (simp only [List.getElem?_toArray, List.getElem?_cons_zero, List.getElem?_cons_succ]; rfl)
      · exact fun _ _ _ h => h
      · rfl
      · (intro wS hSw; (try dsimp only at hSw); go_simp; (try with_reducible rfl))
      (try simp only [Act.put, List.setIfInBounds_toArray, List.set_cons_zero, List.set_cons_succ])
      refine wpAnyH_ready (rs := [1, 4]) (by kernel_rfl) (by simp) ?_
      refine AllReadyH.cons (o := ?_) ?_ (fun K hK => ?_) ?_
      rotate_left
      · (simp only [List.getElem?_toArray, List.getElem?_cons_zero, List.getElem?_cons_succ]; rfl)
      · go_simp
        (try go_wp2_with fail)
        refine hK.out _ _ ?_ (fun hHeld' => ?_)
        · (try dsimp only)
          exact ⟨c3, c4⟩
        clear hK K hHeld
        have hHeld := hHeld'
        clear hHeld'
        (try simp only [Act.put, List.setIfInBounds_toArray, List.set_cons_zero, List.set_cons_succ])
        refine wpAnyH_ready (rs := [4]) (by kernel_rfl) (by simp) ?_
        refine AllReadyH.cons (o := ?_) ?_ (fun K hK => ?_) AllReadyH.nil
        rotate_left
        · (simp only [List.getElem?_toArray, List.getElem?_cons_zero, List.getElem?_cons_succ]; rfl)
        go_simp
        go_at_call 92; refine (l2OwnRow_any _ _ _ ys _ HM.out hgk hnil hatV.drew).mono ?_; rintro e w2 ⟨r2, d2, rfl, ho2, hb2⟩; have e3 := cell_later hb2 c3; have e4 := cell_later hb2 c4; have u1 := cell_later hb2 t1
        (try go_wp2_with fail)
        refine hK.out _ _ ?_ (fun hHeld' => ?_)
        · (try dsimp only)
          exact ⟨e3, e4⟩
        clear hK K hHeld
        have hHeld := hHeld'
        clear hHeld'
        (try simp only [Act.put, List.setIfInBounds_toArray, List.set_cons_zero, List.set_cons_succ])
        have hv2 := hvV.drew.below hb2
        have z2 : V.heap.size ≤ w2.heap.size := hb2.size
        have hTb : some wr.heap.size ≠ (Value.slice r k d).ownBlock := HTB.out
        refine wpAnyH_take (i := 7) (oi := ?_) (v := ?_) ?_ (by kernel_rfl) (by kernel_rfl) (by kernel_rfl) ?_ (Or.inl ⟨?_, ?_⟩) (by assumption) ?_
        rotate_left 2
        · (simp only [List.getElem?_toArray, List.getElem?_cons_zero, List.getElem?_cons_succ]; rfl)
        · exact fun _ _ _ h => h
        · rfl
        · (intro wS hSw; (try dsimp only at hSw); go_simp; (try with_reducible rfl))
        (try simp only [Act.put, List.setIfInBounds_toArray, List.set_cons_zero, List.set_cons_succ])
        refine wpAnyH_ready (rs := [8]) (by kernel_rfl) (by simp) ?_
        refine AllReadyH.cons (o := ?_) ?_ (fun K hK => ?_) AllReadyH.nil
        rotate_left
        · (simp only [List.getElem?_toArray, List.getElem?_cons_zero, List.getElem?_cons_succ]; rfl)
        go_simp
        skip
        (try go_wp2_with fail)
        refine hK.out _ _ ?_ (fun hHeld' => ?_)
        · (try dsimp only)
          exact ⟨cell_later ((Below.refl _ _).alloc (Nat.le_refl _) _) e3, cell_later ((Below.refl _ _).alloc (Nat.le_refl _) _) e4⟩
        clear hK K hHeld
        have hHeld := hHeld'
        clear hHeld'
        (try simp only [Act.put, List.setIfInBounds_toArray, List.set_cons_zero, List.set_cons_succ])
        refine wpAnyH_ready (rs := [9]) (by kernel_rfl) (by simp) ?_
        refine AllReadyH.cons (o := ?_) ?_ (fun K hK => ?_) AllReadyH.nil
        rotate_left
        · (simp only [List.getElem?_toArray, List.getElem?_cons_zero, List.getElem?_cons_succ]; rfl)
        refine step_append_lies _ rfl (.tmp 18) (.tmp 25) 30 rfl (w.heap.size + 1 + 1) 69 i0 (.agg #[.slice none 0 0, .int .i64 0]) 2 32 Try.underlying30 hi hz0 hz1 hz2 rfl (by decide) (.slice r k d) k cells (by simp [Act.eval]) (hv2.own.alloc _) ⟨w2.heap.size, 0, none⟩ 1 1 [.slice r2 m d2, .int .i64 x] (by simp [Act.eval]) rfl (by simpa using news_at w2 #[.slice r2 m d2, .int .i64 x] 69) (by intro u hu; simp at hu; rcases hu with rfl | rfl <;> rfl) (by decide) (by unfold maxLen; omega) (by omega) (by simp; omega) (w2.heap.size + 1) (by simp) ?_; intro g4 cap4 w4 hown4 hgrow4 hat4 hlt4; have bq := hgrow4.cell (v := .slice q m dd) (a := ⟨wr.heap.size, 0, none⟩) (cell_later ((Below.refl _ _).alloc (Nat.le_refl _) _) e3) hTb; have bq' := hgrow4.cell (v := .int .i64 x) (a := ⟨wr.heap.size, 1, none⟩) (cell_later ((Below.refl _ _).alloc (Nat.le_refl _) _) e4) hTb; obtain ⟨s1, s2, hv4⟩ := hvV.drew.pushed hb2 HM.out ho2 hown4 hgrow4 hat4 hlt4
        refine hK.out _ _ ?_ (fun hHeld' => ?_)
        · (try dsimp only)
          exact ⟨bq, bq'⟩
        clear hK K hHeld
        have hHeld := hHeld'
        clear hHeld'
        (try simp only [Act.put, List.setIfInBounds_toArray, List.set_cons_zero, List.set_cons_succ])
        refine wpAnyH_take (i := 10) (oi := ?_) (v := ?_) ?_ (by kernel_rfl) (by kernel_rfl) (by kernel_rfl) ?_ (Or.inl ⟨?_, ?_⟩) (by assumption) ?_
        rotate_left 2
        · (simp only [List.getElem?_toArray, List.getElem?_cons_zero, List.getElem?_cons_succ]; rfl)
        · exact fun _ _ _ h => h
        · rfl
        · (intro wS hSw; (try dsimp only at hSw); go_simp; (try with_reducible rfl))
        (try simp only [Act.put, List.setIfInBounds_toArray, List.set_cons_zero, List.set_cons_succ])
        refine wpAnyH_ready (rs := [11]) (by kernel_rfl) (by simp) ?_
        refine AllReadyH.cons (o := ?_) ?_ (fun K hK => ?_) AllReadyH.nil
        rotate_left
        · (simp only [List.getElem?_toArray, List.getElem?_cons_zero, List.getElem?_cons_succ]; rfl)
        go_simp
        skip
        (try go_wp2_with fail)
        refine hK.out _ _ ?_ (fun hHeld' => ?_)
        · (try dsimp only)
          exact ⟨keep_far bq (by omega), keep_far bq' (by omega)⟩
        clear hK K hHeld
        have hHeld := hHeld'
        clear hHeld'
        (try simp only [Act.put, List.setIfInBounds_toArray, List.set_cons_zero, List.set_cons_succ])
        refine wpAnyH_done (by kernel_rfl) ?_ _
        have HB := Hid.mk (hvV.drew.pushed_below (v := .slice (some ⟨g4, 0, none⟩) (k + 1) cap4) hb2 hgrow4 BW.drew (Nat.le_refl _))
        rw [← HS.out] at hv4
        have HV := Hid.mk hv4
        clear hv4 hown4 hgrow4 hvV BW s1 s2 bq bq' e3 e4 u1 hv2 ho2 hb2 t1 f1 c3 c4 hHeld
        go_wp2
        go_roundw
        case rel => exact ⟨k + 1, _, _, _, by omega, by go_num, HV.out, HB.out⟩
        case measure => simp [intOf]; omega
      refine AllReadyH.cons (o := ?_) ?_ (fun K hK => ?_) AllReadyH.nil
      rotate_left
      · (simp only [List.getElem?_toArray, List.getElem?_cons_zero, List.getElem?_cons_succ]; rfl)
      · go_simp
        go_at_call 92; refine (l2OwnRow_any _ _ _ ys _ HM.out hgk hnil hatV.drew).mono ?_; rintro e w2 ⟨r2, d2, rfl, ho2, hb2⟩; have e3 := cell_later hb2 c3; have e4 := cell_later hb2 c4; have u1 := cell_later hb2 t1
        (try go_wp2_with fail)
        refine hK.out _ _ ?_ (fun hHeld' => ?_)
        · (try dsimp only)
          exact ⟨e3, e4⟩
        clear hK K hHeld
        have hHeld := hHeld'
        clear hHeld'
        (try simp only [Act.put, List.setIfInBounds_toArray, List.set_cons_zero, List.set_cons_succ])
        have hv2 := hvV.drew.below hb2
        have z2 : V.heap.size ≤ w2.heap.size := hb2.size
        have hTb : some wr.heap.size ≠ (Value.slice r k d).ownBlock := HTB.out
        refine wpAnyH_take (i := 7) (oi := ?_) (v := ?_) ?_ (by kernel_rfl) (by kernel_rfl) (by kernel_rfl) ?_ (Or.inl ⟨?_, ?_⟩) (by assumption) ?_
        rotate_left 2
        · (simp only [List.getElem?_toArray, List.getElem?_cons_zero, List.getElem?_cons_succ]; rfl)
        · exact fun _ _ _ h => h
        · rfl
        · (intro wS hSw; (try dsimp only at hSw); go_simp; (try with_reducible rfl))
        (try simp only [Act.put, List.setIfInBounds_toArray, List.set_cons_zero, List.set_cons_succ])
        refine wpAnyH_ready (rs := [1, 8]) (by kernel_rfl) (by simp) ?_
        refine AllReadyH.cons (o := ?_) ?_ (fun K hK => ?_) ?_
        rotate_left
        · (simp only [List.getElem?_toArray, List.getElem?_cons_zero, List.getElem?_cons_succ]; rfl)
        · go_simp
          (try go_wp2_with fail)
          refine hK.out _ _ ?_ (fun hHeld' => ?_)
          · (try dsimp only)
            exact ⟨e3, e4⟩
          clear hK K hHeld
          have hHeld := hHeld'
          clear hHeld'
          (try simp only [Act.put, List.setIfInBounds_toArray, List.set_cons_zero, List.set_cons_succ])
          refine wpAnyH_ready (rs := [8]) (by kernel_rfl) (by simp) ?_
          refine AllReadyH.cons (o := ?_) ?_ (fun K hK => ?_) AllReadyH.nil
          rotate_left
          · (simp only [List.getElem?_toArray, List.getElem?_cons_zero, List.getElem?_cons_succ]; rfl)
          go_simp
          skip
          (try go_wp2_with fail)
          refine hK.out _ _ ?_ (fun hHeld' => ?_)
          · (try dsimp only)
            exact ⟨cell_later ((Below.refl _ _).alloc (Nat.le_refl _) _) e3, cell_later ((Below.refl _ _).alloc (Nat.le_refl _) _) e4⟩
          clear hK K hHeld
          have hHeld := hHeld'
          clear hHeld'
          (try simp only [Act.put, List.setIfInBounds_toArray, List.set_cons_zero, List.set_cons_succ])
          refine wpAnyH_ready (rs := [9]) (by kernel_rfl) (by simp) ?_
          refine AllReadyH.cons (o := ?_) ?_ (fun K hK => ?_) AllReadyH.nil
          rotate_left
          · (simp only [List.getElem?_toArray, List.getElem?_cons_zero, List.getElem?_cons_succ]; rfl)
          refine step_append_lies _ rfl (.tmp 18) (.tmp 25) 30 rfl (w.heap.size + 1 + 1) 69 i0 (.agg #[.slice none 0 0, .int .i64 0]) 2 32 Try.underlying30 hi hz0 hz1 hz2 rfl (by decide) (.slice r k d) k cells (by simp [Act.eval]) (hv2.own.alloc _) ⟨w2.heap.size, 0, none⟩ 1 1 [.slice r2 m d2, .int .i64 x] (by simp [Act.eval]) rfl (by simpa using news_at w2 #[.slice r2 m d2, .int .i64 x] 69) (by intro u hu; simp at hu; rcases hu with rfl | rfl <;> rfl) (by decide) (by unfold maxLen; omega) (by omega) (by simp; omega) (w2.heap.size + 1) (by simp) ?_; intro g4 cap4 w4 hown4 hgrow4 hat4 hlt4; have bq := hgrow4.cell (v := .slice q m dd) (a := ⟨wr.heap.size, 0, none⟩) (cell_later ((Below.refl _ _).alloc (Nat.le_refl _) _) e3) hTb; have bq' := hgrow4.cell (v := .int .i64 x) (a := ⟨wr.heap.size, 1, none⟩) (cell_later ((Below.refl _ _).alloc (Nat.le_refl _) _) e4) hTb; obtain ⟨s1, s2, hv4⟩ := hvV.drew.pushed hb2 HM.out ho2 hown4 hgrow4 hat4 hlt4
          refine hK.out _ _ ?_ (fun hHeld' => ?_)
          · (try dsimp only)
            exact ⟨bq, bq'⟩
          clear hK K hHeld
          have hHeld := hHeld'
          clear hHeld'
          (try simp only [Act.put, List.setIfInBounds_toArray, List.set_cons_zero, List.set_cons_succ])
          refine wpAnyH_take (i := 10) (oi := ?_) (v := ?_) ?_ (by kernel_rfl) (by kernel_rfl) (by kernel_rfl) ?_ (Or.inl ⟨?_, ?_⟩) (by assumption) ?_
          rotate_left 2
          · (simp only [List.getElem?_toArray, List.getElem?_cons_zero, List.getElem?_cons_succ]; rfl)
          · exact fun _ _ _ h => h
          · rfl
          · (intro wS hSw; (try dsimp only at hSw); go_simp; (try with_reducible rfl))
          (try simp only [Act.put, List.setIfInBounds_toArray, List.set_cons_zero, List.set_cons_succ])
          refine wpAnyH_ready (rs := [11]) (by kernel_rfl) (by simp) ?_
          refine AllReadyH.cons (o := ?_) ?_ (fun K hK => ?_) AllReadyH.nil
          rotate_left
          · (simp only [List.getElem?_toArray, List.getElem?_cons_zero, List.getElem?_cons_succ]; rfl)
          go_simp
          skip
          (try go_wp2_with fail)
          refine hK.out _ _ ?_ (fun hHeld' => ?_)
          · (try dsimp only)
            exact ⟨keep_far bq (by omega), keep_far bq' (by omega)⟩
          clear hK K hHeld
          have hHeld := hHeld'
          clear hHeld'
          (try simp only [Act.put, List.setIfInBounds_toArray, List.set_cons_zero, List.set_cons_succ])
          refine wpAnyH_done (by kernel_rfl) ?_ _
          have HB := Hid.mk (hvV.drew.pushed_below (v := .slice (some ⟨g4, 0, none⟩) (k + 1) cap4) hb2 hgrow4 BW.drew (Nat.le_refl _))
          rw [← HS.out] at hv4
          have HV := Hid.mk hv4
          clear hv4 hown4 hgrow4 hvV BW s1 s2 bq bq' e3 e4 u1 hv2 ho2 hb2 t1 f1 c3 c4 hHeld
          go_wp2
          go_roundw
          case rel => exact ⟨k + 1, _, _, _, by omega, by go_num, HV.out, HB.out⟩
          case measure => simp [intOf]; omega
        refine AllReadyH.cons (o := ?_) ?_ (fun K hK => ?_) AllReadyH.nil
        rotate_left
        · (simp only [List.getElem?_toArray, List.getElem?_cons_zero, List.getElem?_cons_succ]; rfl)
        · go_simp
          (try go_wp2_with fail)
          refine hK.out _ _ ?_ (fun hHeld' => ?_)
          · (try dsimp only)
            exact ⟨cell_later ((Below.refl _ _).alloc (Nat.le_refl _) _) e3, cell_later ((Below.refl _ _).alloc (Nat.le_refl _) _) e4⟩
          clear hK K hHeld
          have hHeld := hHeld'
          clear hHeld'
          (try simp only [Act.put, List.setIfInBounds_toArray, List.set_cons_zero, List.set_cons_succ])
          have u2 := cell_later ((Below.refl _ _).alloc (Nat.le_refl _) (.cells #[.slice r2 m d2, .int .i64 x] 69)) u1
          refine wpAnyH_ready (rs := [1]) (by kernel_rfl) (by simp) ?_
          refine AllReadyH.cons (o := ?_) ?_ (fun K hK => ?_) AllReadyH.nil
          rotate_left
          · (simp only [List.getElem?_toArray, List.getElem?_cons_zero, List.getElem?_cons_succ]; rfl)
          go_simp
          skip
          (try go_wp2_with fail)
          refine hK.out _ _ ?_ (fun hHeld' => ?_)
          · (try dsimp only)
            exact ⟨cell_later ((Below.refl _ _).alloc (Nat.le_refl _) _) e3, cell_later ((Below.refl _ _).alloc (Nat.le_refl _) _) e4⟩
          clear hK K hHeld
          have hHeld := hHeld'
          clear hHeld'
          (try simp only [Act.put, List.setIfInBounds_toArray, List.set_cons_zero, List.set_cons_succ])
          refine wpAnyH_ready (rs := [9]) (by kernel_rfl) (by simp) ?_
          refine AllReadyH.cons (o := ?_) ?_ (fun K hK => ?_) AllReadyH.nil
          rotate_left
          · (simp only [List.getElem?_toArray, List.getElem?_cons_zero, List.getElem?_cons_succ]; rfl)
          refine step_append_lies _ rfl (.tmp 18) (.tmp 25) 30 rfl (w.heap.size + 1 + 1) 69 i0 (.agg #[.slice none 0 0, .int .i64 0]) 2 32 Try.underlying30 hi hz0 hz1 hz2 rfl (by decide) (.slice r k d) k cells (by simp [Act.eval]) (hv2.own.alloc _) ⟨w2.heap.size, 0, none⟩ 1 1 [.slice r2 m d2, .int .i64 x] (by simp [Act.eval]) rfl (by simpa using news_at w2 #[.slice r2 m d2, .int .i64 x] 69) (by intro u hu; simp at hu; rcases hu with rfl | rfl <;> rfl) (by decide) (by unfold maxLen; omega) (by omega) (by simp; omega) (w2.heap.size + 1) (by simp) ?_; intro g4 cap4 w4 hown4 hgrow4 hat4 hlt4; have bq := hgrow4.cell (v := .slice q m dd) (a := ⟨wr.heap.size, 0, none⟩) (cell_later ((Below.refl _ _).alloc (Nat.le_refl _) _) e3) hTb; have bq' := hgrow4.cell (v := .int .i64 x) (a := ⟨wr.heap.size, 1, none⟩) (cell_later ((Below.refl _ _).alloc (Nat.le_refl _) _) e4) hTb; obtain ⟨s1, s2, hv4⟩ := hvV.drew.pushed hb2 HM.out ho2 hown4 hgrow4 hat4 hlt4
          refine hK.out _ _ ?_ (fun hHeld' => ?_)
          · (try dsimp only)
            exact ⟨bq, bq'⟩
          clear hK K hHeld
          have hHeld := hHeld'
          clear hHeld'
          (try simp only [Act.put, List.setIfInBounds_toArray, List.set_cons_zero, List.set_cons_succ])
          refine wpAnyH_take (i := 10) (oi := ?_) (v := ?_) ?_ (by kernel_rfl) (by kernel_rfl) (by kernel_rfl) ?_ (Or.inl ⟨?_, ?_⟩) (by assumption) ?_
          rotate_left 2
          · (simp only [List.getElem?_toArray, List.getElem?_cons_zero, List.getElem?_cons_succ]; rfl)
          · exact fun _ _ _ h => h
          · rfl
          · (intro wS hSw; (try dsimp only at hSw); go_simp; (try with_reducible rfl))
          (try simp only [Act.put, List.setIfInBounds_toArray, List.set_cons_zero, List.set_cons_succ])
          refine wpAnyH_ready (rs := [11]) (by kernel_rfl) (by simp) ?_
          refine AllReadyH.cons (o := ?_) ?_ (fun K hK => ?_) AllReadyH.nil
          rotate_left
          · (simp only [List.getElem?_toArray, List.getElem?_cons_zero, List.getElem?_cons_succ]; rfl)
          go_simp
          skip
          (try go_wp2_with fail)
          refine hK.out _ _ ?_ (fun hHeld' => ?_)
          · (try dsimp only)
            exact ⟨keep_far bq (by omega), keep_far bq' (by omega)⟩
          clear hK K hHeld
          have hHeld := hHeld'
          clear hHeld'
          (try simp only [Act.put, List.setIfInBounds_toArray, List.set_cons_zero, List.set_cons_succ])
          refine wpAnyH_done (by kernel_rfl) ?_ _
          have HB := Hid.mk (hvV.drew.pushed_below (v := .slice (some ⟨g4, 0, none⟩) (k + 1) cap4) hb2 hgrow4 BW.drew (Nat.le_refl _))
          rw [← HS.out] at hv4
          have HV := Hid.mk hv4
          clear hv4 hown4 hgrow4 hvV BW s1 s2 bq bq' e3 e4 u1 hv2 ho2 hb2 t1 f1 c3 c4 hHeld
          go_wp2
          go_roundw
          case rel => exact ⟨k + 1, _, _, _, by omega, by go_num, HV.out, HB.out⟩
          case measure => simp [intOf]; omega
    · obtain rfl : k = n := by omega
      rw [wtake_all' ts hz] at hv
      have e0 := (hbw.cell (p := ⟨w.heap.size, 0, none⟩) (by simp)).trans (show W.cell? ⟨w.heap.size, 0, none⟩ = some (.int .i64 0) by rw [cell_of_row W _ 0 _ _ (0, 0) q0]; rfl)
      have e1 := (hbw.cell (p := ⟨w.heap.size, 1, none⟩) (by simp)).trans (show W.cell? ⟨w.heap.size, 1, none⟩ = some (.slice none 0 0) by rw [cell_of_row W _ 1 _ _ (0, 0) q0]; rfl)
      have f0 := (hbw.frozen (p := ⟨w.heap.size, 0, none⟩) (by simp)).trans (frozen_of_row W _ 0 _ _ q0)
      have f1 := (hbw.frozen (p := ⟨w.heap.size, 1, none⟩) (by simp)).trans (frozen_of_row W _ 1 _ _ q0)
      have t0 := hv.cell0
      have t1 := hv.cell1
      have HW : AtW wr r ts := hv.2.atW (fun i hi => by have := hgr i hi; omega)
      go_wp2_with fail
      refine (specGoodTable_any _ _ _ ts p _ hz (by omega) HW).mono ?_
      rintro e w2 ⟨rfl, hb2⟩
      have g0 := cell_later hb2 e0
      have g1 := cell_later hb2 e1
      have k0 := frozen_later hb2 e0 f0
      have k1 := frozen_later hb2 e1 f1
      have s0 := cell_later hb2 t0
      have s1 := cell_later hb2 t1
      have hv2 := hv.below hb2
      have B3 := B2.trans (hb2.mono B2.size)
      clear e0 e1 f0 f1 t0 t1 hv HW HA hb2 hbw q0 ha
      cases hg : goodT p ts with
      | false =>
        have HG := Hid.mk hg
        clear hg
        go_wp2
        refine bodyPost_ret (v := .tuple #[.agg #[.int .i64 0, .slice none 0 0], .bool false]) (by simp [results, Try.results74, go_sem, g0, g1]) rfl ⟨⟨none, 0, 0, [], ?_, ?_⟩, ?_⟩
        · simp [tellP, HG.out]
        · simp only [tellT, HG.out]
          exact OwnWk.start rfl (Nat.le_refl _) (World.ownsRow_nil _ _ _ _) (fun b hb => by cases hb)
        · exact (B3.setCell (by simp) _).setCell (by simp) _
      | true =>
        have HG := Hid.mk hg
        clear hg
        go_wp2
        refine bodyPost_ret (v := .tuple #[.agg #[.int .i64 p, .slice r k d], .bool true]) (by simp [results, Try.results74, go_sem, g0, g1]) rfl ⟨⟨r, k, d, cells, ?_, ?_⟩, ?_⟩
        · simp [tellP, HG.out]
        · simp only [tellT, HG.out, if_true]
          exact ((hv2.2.setCell (a0 := ⟨w.heap.size, 0, none⟩) (.inl (by simp; omega)) _).setCell (a0 := ⟨w.heap.size, 1, none⟩) (.inl (by simp; omega)) _).widen (by omega) (by simp [World.setCell]) (Nat.le_refl _)
        · exact (B3.setCell (by simp) _).setCell (by simp) _

end Go.Proofs.Ytlfljfmhhnoinab

/- Contracts of the laws' helpers that mark tables: markWeightedS, markTable, heldWeightedS, heldTable. -/
namespace Go.Proofs.Ytlfljfmhhnoinab
open Go.RowKit

end Go.Proofs.Ytlfljfmhhnoinab

/- Contracts of the laws' helpers over weighted rows: eqWeighted, eqWeightedS, eqTable. -/
namespace Go.Proofs.Ytlfljfmhhnoinab
open Go.RowKit

end Go.Proofs.Ytlfljfmhhnoinab

/- Plain: what a list of rows tells of weights. -/
namespace Go.Proofs.Ytlfljfmhhnoinab

/-- What the arrays of a map of weights have in common: each is a good row's with so many cells. -/
def Keys (q : Nat) (S : List (List Int)) : Prop := ∀ a ∈ S, ∃ zs, good zs = true ∧ zs.length = q ∧ a = raised zs

/-- A list of rows that has just the weights of f. -/
structure Tells (q : Nat) (f : List Int → Int) (ts : List WRow) : Prop where
  rises : Rises ts
  noZero : NoZero ts
  rows : ∀ t ∈ ts, good t.1 = true ∧ t.1.length = q
  weight : ∀ zs, good zs = true → zs.length = q → wOf ts zs = f (raised zs)

end Go.Proofs.Ytlfljfmhhnoinab

/- Contracts of impl.weights.add, impl.sumsOf. -/
namespace Go.Proofs.Ytlfljfmhhnoinab
open Go.RowKit Go.Maps
open Go.ChangeMaps (setBlock)

theorem MapIs.congr {D : DataW Unit} {f f' : List Int → Int} {S S' : List (List Int)} (h : MapIs D f S) (hf : ∀ x, f x = f' x) (hS : S = S') : MapIs D f' S' := by
  obtain rfl : f = f' := funext hf
  subst hS
  exact h

end Go.Proofs.Ytlfljfmhhnoinab

/- Plain: what is told by summing weights up, and by putting them one by one, is one list. -/
namespace Go.Proofs.Ytlfljfmhhnoinab
open Go.RowKit

/-- What a function that tells a table or nothing hands back. -/
def ansP (ok : Bool) (p : Int) : Int := if ok then p else 0
def ansT (ok : Bool) (ts : List WRow) : List WRow := if ok then ts else []
def TabAns (e : Ending) (w' : World) (lo : Nat) (ok : Bool) (p : Int) (ts : List WRow) : Prop := TabRet e w' lo ok (ansP ok p) (ansT ok ts)

theorem TabAns.zero {e : Ending} {w' : World} {lo : Nat} {ok : Bool} {p : Int} {ts : List WRow} (h : ok = false) (he : e = .returned (.tuple #[.agg #[.int .i64 0, .slice none 0 0], .bool false])) : TabAns e w' lo ok p ts := by
  subst h
  exact ⟨none, 0, 0, [], he, OwnWk.start rfl (Nat.le_refl _) (World.ownsRow_nil _ _ _ _) (fun b hb => by cases hb)⟩
theorem TabAns.tell {e : Ending} {w' : World} {lo : Nat} {ok : Bool} {p : Int} {ts : List WRow} (h : ok = goodT p ts) (hr : TabRet e w' lo (goodT p ts) (tellP p ts) (tellT p ts)) : TabAns e w' lo ok p ts := by
  subst h; exact hr

/-- What NewTable tells. -/
def newB (p : Int) (l : List WRow) : Bool := inc p && (decide (l.length ≤ 200) && (goodL p l && goodT p (putAll [] l)))
theorem newB_col {p : Int} {l : List WRow} (h : inc p = false) : newB p l = false := by simp [newB, h]
theorem newB_len {p : Int} {l : List WRow} (h : 200 < l.length) : newB p l = false := by
  have : decide (l.length ≤ 200) = false := by simp; omega
  simp [newB, this]
theorem newB_list {p : Int} {l : List WRow} (h : goodL p l = false) : newB p l = false := by simp [newB, h]
theorem newB_good {p : Int} {l : List WRow} (h1 : inc p = true) (h2 : l.length ≤ 200) (h3 : goodL p l = true) : newB p l = goodT p (putAll [] l) := by simp [newB, h1, h2, h3]

theorem goodL_mem {p : Int} {ts : List WRow} (h : goodL p ts = true) : ∀ t ∈ ts, good t.1 = true ∧ (t.1.length : Int) = p ∧ -1000000 ≤ t.2 ∧ t.2 ≤ 1000000 := fun t ht => goodW_cells (List.all_eq_true.1 h t ht)
theorem Tells.unique {q : Nat} {f : List Int → Int} {ts us : List WRow} (h : Tells q f ts) (k : Tells q f us) : ts = us := by
  refine rises_ext h.rises k.rises h.noZero k.noZero fun zs => ?_
  by_cases e : good zs = true ∧ zs.length = q
  · rw [h.weight zs e.1 e.2, k.weight zs e.1 e.2]
  · rw [wOf_absent fun t ht e' => e (by rw [← e']; exact h.rows t ht), wOf_absent fun t ht e' => e (by rw [← e']; exact k.rows t ht)]

end Go.Proofs.Ytlfljfmhhnoinab

/- The laws' helpers over tables in one form: what they make, hold equal, mark, find held. -/
namespace Go.Proofs.Ytlfljfmhhnoinab
open Go.RowKit

/-- A list of weighted rows that the laws' bound allows. -/
def SmT (ts : List WRow) (n : Nat) : Prop := ts.length = n ∧ wtot ts n ≤ 1048576
theorem SmT.n {ts : List WRow} {n : Nat} (h : SmT ts n) : n ≤ 1048576 := by have := wtot_len ts n (by have := h.1; omega); have := h.2; omega
theorem SmT.row {ts : List WRow} {n : Nat} (h : SmT ts n) : ∀ i, i < n → (wat ts i).1.length ≤ 1048576 := fun i hi => Nat.le_trans (wtot_each ts n h.1 i hi) h.2
theorem SmT.rowx {ts : List WRow} {n : Nat} (h : SmT ts n) : ∀ i, i < n → (wat ts i).1.length ≤ 9223372036854775807 := fun i hi => Nat.le_trans (h.row i hi) (by decide)

/-- A slice of weighted rows that the call made: all its blocks lie from lo on and below hi. -/
def OwnT (w : World) (lo hi : Nat) (a : Option Addr) (n c : Nat) (ts : List WRow) : Prop := ∃ cells, OwnW w lo hi 69 3 a n c ts cells

section
variable {w w' : World} {lo hi : Nat} {a : Option Addr} {n c : Nat} {ts : List WRow}
theorem OwnT.below (h : OwnT w lo hi a n c ts) (hb : Below w.heap.size w w') : OwnT w' lo hi a n c ts := by obtain ⟨cs, h⟩ := h; exact ⟨cs, h.below hb⟩
theorem OwnT.atW (h : OwnT w lo hi a n c ts) (hs : SmT ts n) : AtW w a ts := by obtain ⟨cs, h⟩ := h; exact OwnWk.atW h hs.rowx
theorem OwnT.atM (h : OwnT w lo hi a n c ts) (hs : SmT ts n) : AtM w a ts := by obtain ⟨cs, h⟩ := h; exact OwnWk.atM h hs.rowx
theorem OwnT.formed (h : OwnT w lo hi a n c ts) : Formed a n c := by obtain ⟨cs, h⟩ := h; exact owns_formed h.outer
theorem OwnT.len (h : OwnT w lo hi a n c ts) : ts.length = n := by obtain ⟨cs, h⟩ := h; exact h.len
end

theorem wtot_le {ts : List WRow} {M : Nat} (h : ∀ t ∈ ts, t.1.length ≤ M) : ∀ k, k ≤ ts.length → wtot ts k ≤ k * (M + 1) := by
  intro k hk
  induction k with
  | zero => simp [wtot_zero]
  | succ k ih =>
    have h1 := ih (by omega)
    have h2 := h _ (wat_mem (show k < ts.length by omega))
    rw [wtot_succ ts k (by omega), Nat.add_mul]
    omega
theorem goodT_wtot {p : Int} {ts : List WRow} (h : goodT p ts = true) : wtot ts ts.length ≤ 1048576 := by
  have h1 := wtot_le (M := 6) (fun t ht => good_len (goodL_mem (goodL_of_goodT h) t ht).1) ts.length (Nat.le_refl _)
  have h2 := (goodT_parts h).2.1
  omega
/-- What is told is small. -/
theorem ans_small {ok : Bool} {p : Int} {ts : List WRow} (h : ok = true → goodT p ts = true) : SmT (ansT ok ts) (ansT ok ts).length := by
  refine ⟨rfl, ?_⟩
  cases ok with
  | false => simp [ansT, wtot]
  | true => exact goodT_wtot (h rfl)

theorem newB_goodT {p : Int} {l : List WRow} (h : newB p l = true) : goodT p (putAll [] l) = true := by
  simp only [newB, Bool.and_eq_true] at h
  exact h.2.2.2
theorem set2_heap {w : World} {g : Nat} {x y : Value} {t : TypeId} (h : w.heap[g]? = some (.cells #[x, y] t (0, 0))) (u v : Value) : ((w.setCell ⟨g, 0, none⟩ u).setCell ⟨g, 1, none⟩ v).heap[g]? = some (.cells #[u, v] t (0, 0)) := by
  have h1 := heap_setCell_same w g 0 _ t u h
  have h2 := heap_setCell_same _ g 1 _ t v h1
  rw [h2]; rfl
theorem set2_0 {w : World} {g : Nat} {x y : Value} {t : TypeId} (h : w.heap[g]? = some (.cells #[x, y] t (0, 0))) (u v : Value) : ((w.setCell ⟨g, 0, none⟩ u).setCell ⟨g, 1, none⟩ v).cell? ⟨g, 0, none⟩ = some u := by
  rw [cell_of_row _ _ 0 _ _ (0, 0) (set2_heap h u v)]; rfl
theorem set2_1 {w : World} {g : Nat} {x y : Value} {t : TypeId} (h : w.heap[g]? = some (.cells #[x, y] t (0, 0))) (u v : Value) : ((w.setCell ⟨g, 0, none⟩ u).setCell ⟨g, 1, none⟩ v).cell? ⟨g, 1, none⟩ = some v := by
  rw [cell_of_row _ _ 1 _ _ (0, 0) (set2_heap h u v)]; rfl
end Go.Proofs.Ytlfljfmhhnoinab

/- Plain facts on tables that are good, and on a result's variable behind 'return f(..)'. -/
namespace Go.Proofs.Ytlfljfmhhnoinab
open Go.RowKit

theorem OwnWk.stored {w : World} {lo hi R : Nat} {te ti : TypeId} {a : Option Addr} {n c : Nat} {ts : List WRow} {cells : List Value} {lo' : Nat} (h : OwnW w lo hi te ti a n c ts cells) (hR : R < lo) (hlo : lo' ≤ lo) (u v : Value) :
    OwnW ((w.setCell ⟨R, 0, none⟩ u).setCell ⟨R, 1, none⟩ v) lo' ((w.setCell ⟨R, 0, none⟩ u).setCell ⟨R, 1, none⟩ v).heap.size te ti a n c ts cells :=
  ((h.setCell (a0 := ⟨R, 0, none⟩) (.inl hR) u).setCell (a0 := ⟨R, 1, none⟩) (.inl hR) v).widen hlo (by have := h.top; simp [World.setCell]; omega) (Nat.le_refl _)
theorem at_of_mem {ts : List WRow} {Q : WRow → Prop} (h : ∀ t ∈ ts, Q t) (k : Nat) (hk : k < ts.length) : Q (wat ts k) := h _ (wat_mem hk)

end Go.Proofs.Ytlfljfmhhnoinab

/- Plain: a table's rows, scaled. -/
namespace Go.Proofs.Ytlfljfmhhnoinab

end Go.Proofs.Ytlfljfmhhnoinab

/- Contracts of spec.l2Add and spec.l2Scale. -/
namespace Go.Proofs.Ytlfljfmhhnoinab
open Go.RowKit

/-- Weights that were put stay within their sum. -/
theorem putAll_ok {ts l : List WRow} {M0 M : Int} (h0 : 0 ≤ M0) (hM : 0 ≤ M) (hr : Rises ts) (ht : ∀ t ∈ ts, t.1.length ≤ 6 ∧ -M0 ≤ t.2 ∧ t.2 ≤ M0) (hl : ∀ t ∈ l, t.1.length ≤ 6 ∧ -M ≤ t.2 ∧ t.2 ≤ M) :
    ∀ t ∈ putAll ts l, t.1.length ≤ 6 ∧ -(M0 + M * l.length) ≤ t.2 ∧ t.2 ≤ M0 + M * l.length := fun t h => by
  have h6 : t.1.length ≤ 6 := by
    rcases putAll_rows h with ⟨s, hs, e⟩ | ⟨s, hs, e⟩
    · rw [← e]; exact (ht s hs).1
    · rw [← e]; exact (hl s hs).1
  have hw := wOf_mem (putAll_rises (l := l) hr) h
  rw [putAll_wOf t.1 hr] at hw
  have b1 := wOf_bound (zs := t.1) h0 (fun s hs => (ht s hs).2)
  have b2 := sumW_bound (zs := t.1) hM (fun s hs => (hl s hs).2)
  omega

theorem mem_of_at {ts : List WRow} {Q : WRow → Prop} (h : ∀ k, k < ts.length → Q (wat ts k)) : ∀ t ∈ ts, Q t := fun t ht => by
  obtain ⟨k, hk, rfl⟩ := List.getElem_of_mem ht
  have := h k hk
  rwa [show wat ts k = ts[k] by simp [wat, List.getD, hk]] at this

end Go.Proofs.Ytlfljfmhhnoinab
