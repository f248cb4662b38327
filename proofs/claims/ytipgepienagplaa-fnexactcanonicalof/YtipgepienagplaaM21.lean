/- Several texts of one proof, in build order: L2Tell, TabU, GoodTI, Dist0. -/
import Derived.Test.YtipgepienagplaaM14
import Derived.Test.YtipgepienagplaaM20
import Derived.Test.YtipgepienagplaaM18
import Derived.Test.YtipgepienagplaaM10
import Derived.Test.YtipgepienagplaaM19

/- Contract of spec.l2Tell. -/
namespace Go.Proofs.Ytipgepienagplaa
open Go.RowKit

theorem wtake_all' (ts : List WRow) {n : Nat} (h : ts.length = n) : ts.take n = ts := List.take_of_length_le (by omega)

set_option maxRecDepth 100000 in
set_option maxHeartbeats 8000000 in
theorem l2Tell_any (a : Option Addr) (n c : Nat) (ts : List WRow) (p : Int) (w : World) (hz : ts.length = n) (hn : n ≤ 1048576) (hgr : ∀ k, k < n → (wat ts k).1.length ≤ 1048576) (ha : AtM w a ts) :
    Calls Try.prog 54 #[.int .i64 p, .slice a n c] w fun e w' => TabRet e w' w.heap.size (goodT p ts) (tellP p ts) (tellT p ts) ∧ Below w.heap.size w w' := by
  obtain ⟨i0, hi, hz0, hz1, hz2⟩ := info_parts Try.infoW
  obtain ⟨W, hW⟩ : ∃ W, W = (w.alloc (.cells #[.int .i64 0, .slice none 0 0] 61)).alloc (.cells #[.int .i64 p, .slice none 0 0] 61) := ⟨_, rfl⟩
  have zW : W.heap.size = w.heap.size + 1 + 1 := by rw [hW]; simp
  have B0 : Below w.heap.size w W := by rw [hW]; exact ((Below.refl _ _).alloc (Nat.le_refl _) _).alloc (by simp) _
  have q0 : W.heap[w.heap.size]? = some (.cells #[.int .i64 0, .slice none 0 0] 61 (0, 0)) := by
    rw [hW]; exact (Below.heap_alloc _ _ _ (by simp)).trans (heap_alloc_new w _)
  have T0 : TabVar W (w.heap.size + 1) p none 0 0 [] [] := by rw [hW]; have := TabVar.new (w.alloc (.cells #[.int .i64 0, .slice none 0 0] 61)) p; rwa [World.size_alloc] at this
  go_enter Try.func54, Try.ntmps54
  go_wp2
  rw [← hW]
  clear hW
  go_loopw [13] (fun i wr => ∃ (k : Nat) (r : Option Addr) (d : Nat) (cells : List Value), k ≤ n ∧ i = .int .i64 k ∧ TabVar wr (w.heap.size + 1) p r k d (ts.take k) cells ∧ Below (w.heap.size + 1) W wr) (fun i _ => n - (intOf i).toNat)
  case atStart => exact ⟨0, none, 0, [], Nat.zero_le _, rfl, T0, Below.refl _ _⟩
  case round =>
    clear T0
    obtain ⟨k, r, d, cells, hk, rfl, hv, hbw⟩ := hrel
    have zR := hv.lt
    have B2 : Below w.heap.size w wr := B0.trans (hbw.mono (by omega))
    have HA := ha.below B2
    by_cases hlt : k < n
    · obtain ⟨b, off, rfl, hc⟩ := HA.some (by omega)
      obtain ⟨q, dd, hcx, hwx, hm, hnil, hat⟩ := hc k (by omega)
      have hgk := hgr k hlt
      have HS := Hid.mk (wtake_succ ts k (by omega))
      have hki : (k : Int) < (n : Int) := by omega
      generalize wat ts k = Y at *
      obtain ⟨ys, x⟩ := Y
      simp only at hcx hwx hat hm hgk
      obtain ⟨m, hmm⟩ : ∃ m, ys.length = m := ⟨_, rfl⟩
      rw [hmm] at hcx hm hgk
      have HM := Hid.mk hmm
      clear hmm hc
      obtain ⟨V, hV⟩ : ∃ V, V = wr.alloc (.cells #[.slice q m dd, .int .i64 x] 123) := ⟨_, rfl⟩
      have hbV : Below wr.heap.size wr V := by rw [hV]; exact (Below.refl _ _).alloc (Nat.le_refl _) _
      have c3 : V.cell? ⟨wr.heap.size, 0, none⟩ = some (.slice q m dd) := by rw [hV]; exact pair0 wr _ _ _
      have c4 : V.cell? ⟨wr.heap.size, 1, none⟩ = some (.int .i64 x) := by rw [hV]; exact pair1 wr _ _ _
      have hv0 := hv
      have hvV := hv.below hbV
      have hatV := hat.below hbV
      have BW : Below (w.heap.size + 1) W V := hbw.trans (hbV.mono (by omega))
      have zV : wr.heap.size < V.heap.size := World.block_lt_of_cell? _ _ c3
      have t1 := hvV.cell1
      have f1 := hvV.frozen1
      go_wp2_with fail
      rw [← hV]
      clear hV hcx hwx hat hbV hv hbw B2 HA

      have HTB : Hid (some wr.heap.size ≠ (Value.slice r k d).ownBlock) := fun e => by have := hvV.2.outerLt _ e.symm; have := (hv0.own.lt _ e.symm).2; omega
      refine wp_region_held_drew (S := fun w' => w'.cell? ⟨wr.heap.size, 0, none⟩ = some (.slice q m dd) ∧ w'.cell? ⟨wr.heap.size, 1, none⟩ = some (.int .i64 x)) (by kernel_rfl) ?_ (fun hHeld => ?_)
      · (try dsimp only)
        exact ⟨c3, c4⟩
      refine tk 0 ?_
      refine tk 2 ?_
      refine tk 3 ?_
      refine tk 5 ?_
      refine tk 6 ?_
      refine wpAnyH_ready (rs := [1, 4]) (by kernel_rfl) (by simp) ?_
      refine AllReadyH.cons (o := ?_) ?_ (fun K hK => ?_) ?_
      rotate_left
      · (simp only [List.getElem?_toArray, List.getElem?_cons_zero, List.getElem?_cons_succ]; rfl)
      · go_simp
        (try go_wp2_with fail)
        refine hK.out _ _ ?_ (fun hHeld' => ?_)
        · (try dsimp only)
          exact ⟨c3, c4⟩
        clear hK K hHeld
        have hHeld := hHeld'
        clear hHeld'
        (try simp only [Act.put, List.setIfInBounds_toArray, List.set_cons_zero, List.set_cons_succ])
        refine tr 4 (fun K hK => ?_)
        go_simp
        go_at_call 96; refine (l2OwnRow_any _ _ _ ys _ HM.out hgk hnil hatV.drew).mono ?_; rintro e w2 ⟨r2, d2, rfl, ho2, hb2⟩; have e3 := cell_later hb2 c3; have e4 := cell_later hb2 c4; have u1 := cell_later hb2 t1
        (try go_wp2_with fail)
        refine hK.out _ _ ?_ (fun hHeld' => ?_)
        · (try dsimp only)
          exact ⟨e3, e4⟩
        clear hK K hHeld
        have hHeld := hHeld'
        clear hHeld'
        (try simp only [Act.put, List.setIfInBounds_toArray, List.set_cons_zero, List.set_cons_succ])
        have hv2 := hvV.drew.below hb2
        have z2 : V.heap.size ≤ w2.heap.size := hb2.size
        have hTb : some wr.heap.size ≠ (Value.slice r k d).ownBlock := HTB.out
        refine tk 7 ?_
        refine tr 8 (fun K hK => ?_)
        go_simp
        skip
        (try go_wp2_with fail)
        refine hK.out _ _ ?_ (fun hHeld' => ?_)
        · (try dsimp only)
          exact ⟨cell_later ((Below.refl _ _).alloc (Nat.le_refl _) _) e3, cell_later ((Below.refl _ _).alloc (Nat.le_refl _) _) e4⟩
        clear hK K hHeld
        have hHeld := hHeld'
        clear hHeld'
        (try simp only [Act.put, List.setIfInBounds_toArray, List.set_cons_zero, List.set_cons_succ])
        refine tr 9 (fun K hK => ?_)
        refine step_append_lies _ rfl (.tmp 18) (.tmp 25) 59 rfl (w.heap.size + 1 + 1) 123 i0 (.agg #[.slice none 0 0, .int .i64 0]) 2 32 Try.underlying59 hi hz0 hz1 hz2 rfl (by decide) (.slice r k d) k cells (by simp [Act.eval]) (hv2.own.alloc _) ⟨w2.heap.size, 0, none⟩ 1 1 [.slice r2 m d2, .int .i64 x] (by simp [Act.eval]) rfl (by simpa using news_at w2 #[.slice r2 m d2, .int .i64 x] 123) (by intro u hu; simp at hu; rcases hu with rfl | rfl <;> rfl) (by decide) (by unfold maxLen; omega) (by omega) (by simp; omega) (w2.heap.size + 1) (by simp) ?_; intro g4 cap4 w4 hown4 hgrow4 hat4 hlt4; have bq := hgrow4.cell (v := .slice q m dd) (a := ⟨wr.heap.size, 0, none⟩) (cell_later ((Below.refl _ _).alloc (Nat.le_refl _) _) e3) hTb; have bq' := hgrow4.cell (v := .int .i64 x) (a := ⟨wr.heap.size, 1, none⟩) (cell_later ((Below.refl _ _).alloc (Nat.le_refl _) _) e4) hTb; obtain ⟨s1, s2, hv4⟩ := hvV.drew.pushed hb2 HM.out ho2 hown4 hgrow4 hat4 hlt4
        refine hK.out _ _ ?_ (fun hHeld' => ?_)
        · (try dsimp only)
          exact ⟨bq, bq'⟩
        clear hK K hHeld
        have hHeld := hHeld'
        clear hHeld'
        (try simp only [Act.put, List.setIfInBounds_toArray, List.set_cons_zero, List.set_cons_succ])
        refine tk 10 ?_
        refine tr 11 (fun K hK => ?_)
        go_simp
        skip
        (try go_wp2_with fail)
        refine hK.out _ _ ?_ (fun hHeld' => ?_)
        · (try dsimp only)
          exact ⟨keep_far bq (by omega), keep_far bq' (by omega)⟩
        clear hK K hHeld
        have hHeld := hHeld'
        clear hHeld'
        (try simp only [Act.put, List.setIfInBounds_toArray, List.set_cons_zero, List.set_cons_succ])
        refine wpAnyH_done (by kernel_rfl) ?_ _
        have HB := Hid.mk (hvV.drew.pushed_below (v := .slice (some ⟨g4, 0, none⟩) (k + 1) cap4) hb2 hgrow4 BW.drew (Nat.le_refl _))
        rw [← HS.out] at hv4
        have HV := Hid.mk hv4
        clear hv4 hown4 hgrow4 hvV BW s1 s2 bq bq' e3 e4 u1 hv2 ho2 hb2 t1 f1 c3 c4 hHeld
        go_wp2
        go_roundw
        case rel => exact ⟨k + 1, _, _, _, by omega, by go_num, HV.out, HB.out⟩
        case measure => simp [intOf]; omega
      refine AllReadyH.cons (o := ?_) ?_ (fun K hK => ?_) AllReadyH.nil
      rotate_left
      · (simp only [List.getElem?_toArray, List.getElem?_cons_zero, List.getElem?_cons_succ]; rfl)
      · go_simp
        go_at_call 96; refine (l2OwnRow_any _ _ _ ys _ HM.out hgk hnil hatV.drew).mono ?_; rintro e w2 ⟨r2, d2, rfl, ho2, hb2⟩; have e3 := cell_later hb2 c3; have e4 := cell_later hb2 c4; have u1 := cell_later hb2 t1
        (try go_wp2_with fail)
        refine hK.out _ _ ?_ (fun hHeld' => ?_)
        · (try dsimp only)
          exact ⟨e3, e4⟩
        clear hK K hHeld
        have hHeld := hHeld'
        clear hHeld'
        (try simp only [Act.put, List.setIfInBounds_toArray, List.set_cons_zero, List.set_cons_succ])
        have hv2 := hvV.drew.below hb2
        have z2 : V.heap.size ≤ w2.heap.size := hb2.size
        have hTb : some wr.heap.size ≠ (Value.slice r k d).ownBlock := HTB.out
        refine tk 7 ?_
        refine wpAnyH_ready (rs := [1, 8]) (by kernel_rfl) (by simp) ?_
        refine AllReadyH.cons (o := ?_) ?_ (fun K hK => ?_) ?_
        rotate_left
        · (simp only [List.getElem?_toArray, List.getElem?_cons_zero, List.getElem?_cons_succ]; rfl)
        · go_simp
          (try go_wp2_with fail)
          refine hK.out _ _ ?_ (fun hHeld' => ?_)
          · (try dsimp only)
            exact ⟨e3, e4⟩
          clear hK K hHeld
          have hHeld := hHeld'
          clear hHeld'
          (try simp only [Act.put, List.setIfInBounds_toArray, List.set_cons_zero, List.set_cons_succ])
          refine tr 8 (fun K hK => ?_)
          go_simp
          skip
          (try go_wp2_with fail)
          refine hK.out _ _ ?_ (fun hHeld' => ?_)
          · (try dsimp only)
            exact ⟨cell_later ((Below.refl _ _).alloc (Nat.le_refl _) _) e3, cell_later ((Below.refl _ _).alloc (Nat.le_refl _) _) e4⟩
          clear hK K hHeld
          have hHeld := hHeld'
          clear hHeld'
          (try simp only [Act.put, List.setIfInBounds_toArray, List.set_cons_zero, List.set_cons_succ])
          refine tr 9 (fun K hK => ?_)
          refine step_append_lies _ rfl (.tmp 18) (.tmp 25) 59 rfl (w.heap.size + 1 + 1) 123 i0 (.agg #[.slice none 0 0, .int .i64 0]) 2 32 Try.underlying59 hi hz0 hz1 hz2 rfl (by decide) (.slice r k d) k cells (by simp [Act.eval]) (hv2.own.alloc _) ⟨w2.heap.size, 0, none⟩ 1 1 [.slice r2 m d2, .int .i64 x] (by simp [Act.eval]) rfl (by simpa using news_at w2 #[.slice r2 m d2, .int .i64 x] 123) (by intro u hu; simp at hu; rcases hu with rfl | rfl <;> rfl) (by decide) (by unfold maxLen; omega) (by omega) (by simp; omega) (w2.heap.size + 1) (by simp) ?_; intro g4 cap4 w4 hown4 hgrow4 hat4 hlt4; have bq := hgrow4.cell (v := .slice q m dd) (a := ⟨wr.heap.size, 0, none⟩) (cell_later ((Below.refl _ _).alloc (Nat.le_refl _) _) e3) hTb; have bq' := hgrow4.cell (v := .int .i64 x) (a := ⟨wr.heap.size, 1, none⟩) (cell_later ((Below.refl _ _).alloc (Nat.le_refl _) _) e4) hTb; obtain ⟨s1, s2, hv4⟩ := hvV.drew.pushed hb2 HM.out ho2 hown4 hgrow4 hat4 hlt4
          refine hK.out _ _ ?_ (fun hHeld' => ?_)
          · (try dsimp only)
            exact ⟨bq, bq'⟩
          clear hK K hHeld
          have hHeld := hHeld'
          clear hHeld'
          (try simp only [Act.put, List.setIfInBounds_toArray, List.set_cons_zero, List.set_cons_succ])
          refine tk 10 ?_
          refine tr 11 (fun K hK => ?_)
          go_simp
          skip
          (try go_wp2_with fail)
          refine hK.out _ _ ?_ (fun hHeld' => ?_)
          · (try dsimp only)
            exact ⟨keep_far bq (by omega), keep_far bq' (by omega)⟩
          clear hK K hHeld
          have hHeld := hHeld'
          clear hHeld'
          (try simp only [Act.put, List.setIfInBounds_toArray, List.set_cons_zero, List.set_cons_succ])
          refine wpAnyH_done (by kernel_rfl) ?_ _
          have HB := Hid.mk (hvV.drew.pushed_below (v := .slice (some ⟨g4, 0, none⟩) (k + 1) cap4) hb2 hgrow4 BW.drew (Nat.le_refl _))
          rw [← HS.out] at hv4
          have HV := Hid.mk hv4
          clear hv4 hown4 hgrow4 hvV BW s1 s2 bq bq' e3 e4 u1 hv2 ho2 hb2 t1 f1 c3 c4 hHeld
          go_wp2
          go_roundw
          case rel => exact ⟨k + 1, _, _, _, by omega, by go_num, HV.out, HB.out⟩
          case measure => simp [intOf]; omega
        refine AllReadyH.cons (o := ?_) ?_ (fun K hK => ?_) AllReadyH.nil
        rotate_left
        · (simp only [List.getElem?_toArray, List.getElem?_cons_zero, List.getElem?_cons_succ]; rfl)
        · go_simp
          (try go_wp2_with fail)
          refine hK.out _ _ ?_ (fun hHeld' => ?_)
          · (try dsimp only)
            exact ⟨cell_later ((Below.refl _ _).alloc (Nat.le_refl _) _) e3, cell_later ((Below.refl _ _).alloc (Nat.le_refl _) _) e4⟩
          clear hK K hHeld
          have hHeld := hHeld'
          clear hHeld'
          (try simp only [Act.put, List.setIfInBounds_toArray, List.set_cons_zero, List.set_cons_succ])
          have u2 := cell_later ((Below.refl _ _).alloc (Nat.le_refl _) (.cells #[.slice r2 m d2, .int .i64 x] 123)) u1
          refine tr 1 (fun K hK => ?_)
          go_simp
          skip
          (try go_wp2_with fail)
          refine hK.out _ _ ?_ (fun hHeld' => ?_)
          · (try dsimp only)
            exact ⟨cell_later ((Below.refl _ _).alloc (Nat.le_refl _) _) e3, cell_later ((Below.refl _ _).alloc (Nat.le_refl _) _) e4⟩
          clear hK K hHeld
          have hHeld := hHeld'
          clear hHeld'
          (try simp only [Act.put, List.setIfInBounds_toArray, List.set_cons_zero, List.set_cons_succ])
          refine tr 9 (fun K hK => ?_)
          refine step_append_lies _ rfl (.tmp 18) (.tmp 25) 59 rfl (w.heap.size + 1 + 1) 123 i0 (.agg #[.slice none 0 0, .int .i64 0]) 2 32 Try.underlying59 hi hz0 hz1 hz2 rfl (by decide) (.slice r k d) k cells (by simp [Act.eval]) (hv2.own.alloc _) ⟨w2.heap.size, 0, none⟩ 1 1 [.slice r2 m d2, .int .i64 x] (by simp [Act.eval]) rfl (by simpa using news_at w2 #[.slice r2 m d2, .int .i64 x] 123) (by intro u hu; simp at hu; rcases hu with rfl | rfl <;> rfl) (by decide) (by unfold maxLen; omega) (by omega) (by simp; omega) (w2.heap.size + 1) (by simp) ?_; intro g4 cap4 w4 hown4 hgrow4 hat4 hlt4; have bq := hgrow4.cell (v := .slice q m dd) (a := ⟨wr.heap.size, 0, none⟩) (cell_later ((Below.refl _ _).alloc (Nat.le_refl _) _) e3) hTb; have bq' := hgrow4.cell (v := .int .i64 x) (a := ⟨wr.heap.size, 1, none⟩) (cell_later ((Below.refl _ _).alloc (Nat.le_refl _) _) e4) hTb; obtain ⟨s1, s2, hv4⟩ := hvV.drew.pushed hb2 HM.out ho2 hown4 hgrow4 hat4 hlt4
          refine hK.out _ _ ?_ (fun hHeld' => ?_)
          · (try dsimp only)
            exact ⟨bq, bq'⟩
          clear hK K hHeld
          have hHeld := hHeld'
          clear hHeld'
          (try simp only [Act.put, List.setIfInBounds_toArray, List.set_cons_zero, List.set_cons_succ])
          refine tk 10 ?_
          refine tr 11 (fun K hK => ?_)
          go_simp
          skip
          (try go_wp2_with fail)
          refine hK.out _ _ ?_ (fun hHeld' => ?_)
          · (try dsimp only)
            exact ⟨keep_far bq (by omega), keep_far bq' (by omega)⟩
          clear hK K hHeld
          have hHeld := hHeld'
          clear hHeld'
          (try simp only [Act.put, List.setIfInBounds_toArray, List.set_cons_zero, List.set_cons_succ])
          refine wpAnyH_done (by kernel_rfl) ?_ _
          have HB := Hid.mk (hvV.drew.pushed_below (v := .slice (some ⟨g4, 0, none⟩) (k + 1) cap4) hb2 hgrow4 BW.drew (Nat.le_refl _))
          rw [← HS.out] at hv4
          have HV := Hid.mk hv4
          clear hv4 hown4 hgrow4 hvV BW s1 s2 bq bq' e3 e4 u1 hv2 ho2 hb2 t1 f1 c3 c4 hHeld
          go_wp2
          go_roundw
          case rel => exact ⟨k + 1, _, _, _, by omega, by go_num, HV.out, HB.out⟩
          case measure => simp [intOf]; omega
    · obtain rfl : k = n := by omega
      rw [wtake_all' ts hz] at hv
      have e0 := (hbw.cell (p := ⟨w.heap.size, 0, none⟩) (by simp)).trans (show W.cell? ⟨w.heap.size, 0, none⟩ = some (.int .i64 0) by rw [cell_of_row W _ 0 _ _ (0, 0) q0]; rfl)
      have e1 := (hbw.cell (p := ⟨w.heap.size, 1, none⟩) (by simp)).trans (show W.cell? ⟨w.heap.size, 1, none⟩ = some (.slice none 0 0) by rw [cell_of_row W _ 1 _ _ (0, 0) q0]; rfl)
      have f0 := (hbw.frozen (p := ⟨w.heap.size, 0, none⟩) (by simp)).trans (frozen_of_row W _ 0 _ _ q0)
      have f1 := (hbw.frozen (p := ⟨w.heap.size, 1, none⟩) (by simp)).trans (frozen_of_row W _ 1 _ _ q0)
      have t0 := hv.cell0
      have t1 := hv.cell1
      have HW : AtW wr r ts := hv.2.atW (fun i hi => by have := hgr i hi; omega)
      go_wp2_with fail
      refine (specGoodTable_any _ _ _ ts p _ hz (by omega) HW).mono ?_
      rintro e w2 ⟨rfl, hb2⟩
      have g0 := cell_later hb2 e0
      have g1 := cell_later hb2 e1
      have k0 := frozen_later hb2 e0 f0
      have k1 := frozen_later hb2 e1 f1
      have s0 := cell_later hb2 t0
      have s1 := cell_later hb2 t1
      have hv2 := hv.below hb2
      have B3 := B2.trans (hb2.mono B2.size)
      clear e0 e1 f0 f1 t0 t1 hv HW HA hb2 hbw q0 ha
      cases hg : goodT p ts with
      | false =>
        have HG := Hid.mk hg
        clear hg
        go_wp2
        refine bodyPost_ret (v := .tuple #[.agg #[.int .i64 0, .slice none 0 0], .bool false]) (by simp [results, Try.results54, go_sem, g0, g1]) rfl ⟨⟨none, 0, 0, [], ?_, ?_⟩, ?_⟩
        · simp [tellP, HG.out]
        · simp only [tellT, HG.out]
          exact OwnWk.start rfl (Nat.le_refl _) (World.ownsRow_nil _ _ _ _) (fun b hb => by cases hb)
        · exact (B3.setCell (by simp) _).setCell (by simp) _
      | true =>
        have HG := Hid.mk hg
        clear hg
        go_wp2
        refine bodyPost_ret (v := .tuple #[.agg #[.int .i64 p, .slice r k d], .bool true]) (by simp [results, Try.results54, go_sem, g0, g1]) rfl ⟨⟨r, k, d, cells, ?_, ?_⟩, ?_⟩
        · simp [tellP, HG.out]
        · simp only [tellT, HG.out, if_true]
          exact ((hv2.2.setCell (a0 := ⟨w.heap.size, 0, none⟩) (.inl (by simp; omega)) _).setCell (a0 := ⟨w.heap.size, 1, none⟩) (.inl (by simp; omega)) _).widen (by omega) (by simp [World.setCell]) (Nat.le_refl _)
        · exact (B3.setCell (by simp) _).setCell (by simp) _

end Go.Proofs.Ytipgepienagplaa

/- Plain facts on tables that are good, and on a result's variable behind 'return f(..)'. -/
namespace Go.Proofs.Ytipgepienagplaa
open Go.RowKit

theorem OwnWk.stored {w : World} {lo hi R : Nat} {te ti : TypeId} {a : Option Addr} {n c : Nat} {ts : List WRow} {cells : List Value} {lo' : Nat} (h : OwnW w lo hi te ti a n c ts cells) (hR : R < lo) (hlo : lo' ≤ lo) (u v : Value) :
    OwnW ((w.setCell ⟨R, 0, none⟩ u).setCell ⟨R, 1, none⟩ v) lo' ((w.setCell ⟨R, 0, none⟩ u).setCell ⟨R, 1, none⟩ v).heap.size te ti a n c ts cells :=
  ((h.setCell (a0 := ⟨R, 0, none⟩) (.inl hR) u).setCell (a0 := ⟨R, 1, none⟩) (.inl hR) v).widen hlo (by have := h.top; simp [World.setCell]; omega) (Nat.le_refl _)
theorem alloc_keeps {w : World} {a : Addr} {v : Value} (h : w.cell? a = some v) (o : Obj) : (w.alloc o).cell? a = some v := cell_later ((Below.refl _ _).alloc (Nat.le_refl _) o) h
theorem goodT_noZero {p : Int} {ts : List WRow} (h : goodT p ts = true) : NoZero ts := fun t ht => by
  obtain ⟨k, hk, rfl⟩ := List.getElem_of_mem ht
  have := (goodT_parts h).2.2 k hk
  simp only [stepB, Bool.and_eq_true, Bool.not_eq_true', decide_eq_false_iff_not] at this
  have e : wat ts k = ts[k] := by simp [wat, List.getD, hk]
  rw [e] at this
  exact this.2.1
theorem goodT_len60 {p : Int} {ts : List WRow} (h : goodT p ts = true) : ts.length ≤ 60 := (goodT_parts h).2.1
theorem goodT_cells {p : Int} {ts : List WRow} (h : goodT p ts = true) (k : Nat) (hk : k < ts.length) : good (wat ts k).1 = true ∧ -1000000 ≤ (wat ts k).2 ∧ (wat ts k).2 ≤ 1000000 := by
  have := goodW_cells (goodL_at (goodL_of_goodT h) k hk)
  exact ⟨this.1, this.2.2⟩
theorem goodT_mem {q : Nat} {ts : List WRow} (h : goodT q ts = true) : ∀ t ∈ ts, good t.1 = true ∧ t.1.length = q := fun t ht => by
  have := goodL_mem (goodL_of_goodT h) t ht
  exact ⟨this.1, by omega⟩
theorem goodT_six {p : Int} {ts : List WRow} (h : goodT p ts = true) : ∀ t ∈ ts, t.1.length ≤ 6 ∧ -1000000 ≤ t.2 ∧ t.2 ≤ 1000000 := fun t ht => by
  have := goodL_mem (goodL_of_goodT h) t ht
  exact ⟨good_len this.1, this.2.2⟩
theorem at_of_mem {ts : List WRow} {Q : WRow → Prop} (h : ∀ t ∈ ts, Q t) (k : Nat) (hk : k < ts.length) : Q (wat ts k) := h _ (wat_mem hk)

/-- A rising list that has no zeros tells its own weights. -/
theorem tells_self {q : Nat} {us : List WRow} (hr : Rises us) (hn : NoZero us) (hrow : ∀ t ∈ us, good t.1 = true ∧ t.1.length = q) : Tells q (sumAt us us.length 1) us :=
  ⟨hr, hn, hrow, fun zs h1 _ => by rw [sumAt_sumW rfl 1 (fun t ht => (hrow t ht).1) h1, sumW_rises hr]; omega⟩
/-- Some of its rows, the rows as they are, rise. -/
theorem rises_some {g : WRow → Option WRow} (hg : ∀ t s, g t = some s → s.1 = t.1) {ts : List WRow} (h : Rises ts) : Rises (ts.filterMap g) := by
  unfold Rises at *
  rw [List.pairwise_filterMap]
  exact h.imp fun {a b} hab s hs t ht => by rw [hg a s hs, hg b t ht]; exact hab
theorem some_mem {g : WRow → Option WRow} {ts : List WRow} {t : WRow} (h : t ∈ ts.filterMap g) : ∃ s ∈ ts, g s = some t := List.mem_filterMap.1 h

end Go.Proofs.Ytipgepienagplaa

/- Contract of impl.GoodTable. -/
namespace Go.Proofs.Ytipgepienagplaa
open Go.RowKit

set_option maxHeartbeats 4000000 in
theorem implGoodTable_any (a : Option Addr) (n c : Nat) (ts : List WRow) (p : Int) (w : World) (hz : ts.length = n) (hn : n ≤ 1048576) (ha : AtW w a ts) :
    Calls Try.prog 79 #[.agg #[.int .i64 p, .slice a n c]] w fun e w' => e = .returned (.bool (goodT p ts)) ∧ Below w.heap.size w w' := by
  have B0 : Below w.heap.size w (w.alloc (.cells #[.int .i64 p, .slice a n c] 61)) := (Below.refl _ _).alloc (Nat.le_refl _) _
  have HA := ha.below B0
  clear ha
  cases hi : inc p with
  | false =>
    have HI := Hid.mk hi
    clear hi
    go_enter Try.func79, Try.ntmps79
    go_wp2_with (go_at_call 117; refine (goodColumns_any _ _).mono ?_; rintro e w2 ⟨rfl, rfl⟩; rw [HI.out])
    go_ret
    exact ⟨ret_bool (goodT_col HI.out).symm, B0⟩
  | true =>
    have HI := Hid.mk hi
    clear hi
    by_cases h60 : n ≤ 60
    · cases hg : goodL p ts with
      | false =>
        have HG := Hid.mk hg
        clear hg
        go_enter Try.func79, Try.ntmps79
        go_wp2_with (first | (go_at_call 117; refine (goodColumns_any _ _).mono ?_; rintro e w2 ⟨rfl, rfl⟩; rw [HI.out]) | (go_at_call 118; refine (goodWeighted_any _ _ _ ts _ _ hz hn HA).mono ?_; rintro e w1 ⟨rfl, hb1⟩; rw [HG.out]))
        go_ret
        exact ⟨ret_bool (goodT_goodL HG.out).symm, B0.trans (hb1.mono B0.size)⟩
      | true =>
        have HG := Hid.mk hg
        clear hg
        have hL : ∀ k, k < n → goodW p (wat ts k) = true := fun k hk => goodL_at HG.out k (by omega)
        go_enter Try.func79, Try.ntmps79
        go_wp2_with (go_at_call 117; refine (goodColumns_any _ _).mono ?_; rintro e w2 ⟨rfl, rfl⟩; rw [HI.out])
        refine (goodWeighted_any _ _ _ ts _ _ hz hn HA).mono ?_
        rintro e w1 ⟨rfl, hb1⟩
        rw [HG.out]
        have B1 := B0.trans (hb1.mono B0.size)
        have ct := cell_later hb1 (pair1 w (.int .i64 p) (.slice a n c) 61)
        have HA1 := HA.below hb1
        clear hb1 HA B0
        go_wp2
        go_loopw [26] (fun i wr => ∃ (k : Nat), k ≤ n ∧ i = .int .i64 k ∧ (∀ j, j < k → stepB p ts j = true) ∧ Below w1.heap.size w1 wr) (fun i _ => n - (intOf i).toNat)
        case atStart => exact ⟨0, Nat.zero_le _, rfl, fun j hj => by omega, Below.refl _ _⟩
        case round =>
          obtain ⟨k, hk, rfl, hall, hbw⟩ := hrel
          have B2 := B1.trans (hbw.mono B1.size)
          by_cases hlt : k < n
          · obtain ⟨b, off, rfl, hc⟩ := (HA1.below hbw).some (by omega)
            obtain ⟨q, d, hcx, hwx, hm, hat⟩ := hc k (by omega)
            have hgk := goodW_cells (hL k hlt)
            have HN : Hid ((wat ts k).2 = 0 → goodT p ts = false) := fun h => goodT_not k (by omega) (stepB_zero h)
            have HC : Hid (k ≠ 0 → ¬ cmp (wat ts (k - 1)).1 (wat ts k).1 < 0 → goodT p ts = false) := fun h0 h => goodT_not k (by omega) (stepB_cmp h0 h)
            have HS : Hid ((wat ts k).2 ≠ 0 → (k = 0 ∨ cmp (wat ts (k - 1)).1 (wat ts k).1 < 0) → ∀ j, j < k + 1 → stepB p ts j = true) := fun h1 h2 j hj => by
              by_cases e : j = k
              · subst e; exact stepB_mk (hL j hlt) h1 h2
              · exact hall j (by omega)
            have ct2 := cell_later hbw ct
            have hki : (k : Int) < (n : Int) := by omega
            by_cases hk0 : k = 0
            · have HK := Hid.mk hk0
              have hnp : decide (0 < k) = false := decide_eq_false (by omega)
              generalize wat ts k = Y at *
              obtain ⟨ys, x⟩ := Y
              simp only at hcx hwx hat hm
              clear hc hall hat hgk hk0
              obtain ⟨m, hmm⟩ : ∃ m, ys.length = m := ⟨_, rfl⟩
              rw [hmm] at hcx hm
              clear hmm
              by_cases hx : x = 0
              · have hxx : (x == 0) = true := by simp [hx]
                have HX := Hid.mk hx
                clear hx
                go_wp2
                go_ret
                exact ⟨ret_bool (HN.out HX.out).symm, B2.alloc B2.size _⟩
              · have hxx : (x == 0) = false := by simp [hx]
                have HX := Hid.mk hx
                clear hx
                go_wp2
                go_quiet (fail)
                go_wp2
                go_roundw
                case rel => exact ⟨k + 1, by omega, by go_num, HS.out HX.out (.inl HK.out), below_drewN (hbw.alloc hbw.size _) _⟩
                case measure => simp [intOf]; omega
            · obtain ⟨q', d', hcx', _, _, hat'⟩ := hc (k - 1) (by omega)
              have hgk' := goodW_cells (hL (k - 1) (by omega))
              have hnp : 0 < k := by omega
              have hsub : IntKind.i64.wrap ((k : Int) - 1) = ((k - 1 : Nat) : Int) := (IntWalk.i64_in _ (by omega)).trans (by omega)
              have hlt1 : ((k - 1 : Nat) : Int) < (n : Int) := by omega
              obtain ⟨k', hk'⟩ : ∃ k', k' = k - 1 := ⟨_, rfl⟩
              have HK' := Hid.mk hk'
              rw [← hk'] at hcx' hat' hgk' hsub hlt1 HC HS
              generalize wat ts k = Y at *
              generalize wat ts k' = Y' at *
              obtain ⟨ys, x⟩ := Y
              obtain ⟨ys', x'⟩ := Y'
              simp only at hcx hwx hat hm hcx' hat' hgk hgk'
              have l1 := good_len hgk.1
              have l1' := good_len hgk'.1
              have HG1 := Hid.mk hgk.1
              have HG1' := Hid.mk hgk'.1
              clear hc hall hgk hgk' hk'
              obtain ⟨m, hmm⟩ : ∃ m, ys.length = m := ⟨_, rfl⟩
              obtain ⟨m', hmm'⟩ : ∃ m, ys'.length = m := ⟨_, rfl⟩
              rw [hmm] at hcx hm l1
              rw [hmm'] at hcx' l1'
              have HM := Hid.mk hmm
              have HM' := Hid.mk hmm'
              clear hmm hmm'
              by_cases hx : x = 0
              · have hxx : (x == 0) = true := by simp [hx]
                have HX := Hid.mk hx
                clear hx
                go_wp2
                go_ret
                exact ⟨ret_bool (HN.out HX.out).symm, B2.alloc B2.size _⟩
              · have hxx : (x == 0) = false := by simp [hx]
                have HX := Hid.mk hx
                clear hx
                have c1 := cell_later ((Below.refl wr.heap.size wr).alloc (Nat.le_refl _) (.cells #[.slice q m d, .int .i64 x] 123)) hcx'
                have c2 := cell_later ((Below.refl wr.heap.size wr).alloc (Nat.le_refl _) (.cells #[.slice q m d, .int .i64 x] 123)) ct2
                have c3 := pair0 wr (.slice q m d) (.int .i64 x) 123
                have HAx := hat.alloc (.cells #[.slice q m d, .int .i64 x] 123)
                have HAy := hat'.alloc (.cells #[.slice q m d, .int .i64 x] 123)
                have BW := B2.alloc B2.size (.cells #[.slice q m d, .int .i64 x] 123)
                have BV := hbw.alloc hbw.size (.cells #[.slice q m d, .int .i64 x] 123)
                obtain ⟨W, hW⟩ : ∃ W, W = wr.alloc (.cells #[.slice q m d, .int .i64 x] 123) := ⟨_, rfl⟩
                go_wp2
                rw [← hW] at c1 c2 c3 HAx HAy BW BV ⊢
                clear hW hcx hcx' hwx ct2 ct hat hat' HA1 hm
                go_region_held3 (fun w' => w'.cell? ⟨w.heap.size, 1, none⟩ = some (.slice (some ⟨b, off, none⟩) n c) ∧ w'.cell? ⟨b, off + k' * 2, none⟩ = some (.slice q' m' d') ∧ w'.cell? ⟨wr.heap.size, 0, none⟩ = some (.slice q m d)) (refine ⟨?_, ?_, ?_⟩ <;> assumption)
                  (first
                    | (go_at_call_of 100 (Value.slice q' m' d'); refine (arrayOf_any _ _ _ ys' _ HM'.out l1' (fun j hj => good_cell HG1'.out j (by have := HM'.out; omega)) HAy.drew).mono ?_; rintro e w2 ⟨y0, y1, y2, y3, y4, y5, rfl, hy, hb2⟩; have r1 := cell_later hb2 c1; have r2 := cell_later hb2 c2; have r3 := cell_later hb2 c3; have HAz := HAx.drew.below hb2)
                    | (go_at_call_of 100 (Value.slice q m d); refine (arrayOf_any _ _ _ ys _ HM.out l1 (fun j hj => good_cell HG1.out j (by have := HM.out; omega)) HAz).mono ?_; rintro e w3 ⟨x0, x1, x2, x3, x4, x5, rfl, hx, hb3⟩; have s1 := cell_later hb3 r1; have s2 := cell_later hb3 r2; have s3 := cell_later hb3 r3)
                    | (go_at_call 119; refine (compareArrays_any _ _ _ _ _ _ _ _ _ _ _ _ _ _ hy hx _).mono ?_; rintro e w4 ⟨rfl, hb4⟩; have v1 := cell_later hb4 s1; have v2 := cell_later hb4 s2; have v3 := cell_later hb4 s3))
                have B5 : Below w.heap.size w w4 := ((BW.drew.trans (hb2.mono BW.size)).trans (hb3.mono (by have := hb2.size; have := BW.size; simp only [drew_size] at *; omega))).trans (hb4.mono (by have := hb2.size; have := hb3.size; have := BW.size; simp only [drew_size] at *; omega))
                have V5 : Below w1.heap.size w1 w4 := ((BV.drew.trans (hb2.mono BV.size)).trans (hb3.mono (by have := hb2.size; have := BV.size; simp only [drew_size] at *; omega))).trans (hb4.mono (by have := hb2.size; have := hb3.size; have := BV.size; simp only [drew_size] at *; omega))
                have hcr := cmp_raised HG1'.out HG1.out
                rw [hy, hx] at hcr
                have hcm := cmp_range ys' ys
                clear hy hx hb2 hb3 hb4 r1 r2 r3 s1 s2 s3 v1 v2 v3 c1 c2 c3 HAz HAx HAy BW BV
                by_cases hlss : cmp ys' ys < 0
                · have hcc : (cmp [y0, y1, y2, y3, y4, y5] [x0, x1, x2, x3, x4, x5] != -1) = false := by rw [hcr, show cmp ys' ys = -1 by omega]; rfl
                  have HL := Hid.mk hlss
                  clear hcr hcm hlss
                  go_wp2
                  go_roundw
                  case rel => exact ⟨k + 1, by omega, by go_num, HS.out HX.out (.inr HL.out), V5⟩
                  case measure => simp [intOf]; omega
                · have hcc : (cmp [y0, y1, y2, y3, y4, y5] [x0, x1, x2, x3, x4, x5] != -1) = true := by
                    rw [hcr]
                    rcases hcm with h | h | h
                    · omega
                    · rw [h]; rfl
                    · rw [h]; rfl
                  have HL := Hid.mk hlss
                  clear hcr hcm hlss
                  go_wp2
                  go_ret
                  exact ⟨ret_bool (HC.out hk0 (by have := HL.out; omega)).symm, B5⟩
          · go_wp2
            go_ret
            exact ⟨ret_bool (goodT_of HI.out (by omega) (fun j hj => hall j (by omega))).symm, B2⟩
    · go_enter Try.func79, Try.ntmps79
      go_wp2_with (go_at_call 117; refine (goodColumns_any _ _).mono ?_; rintro e w2 ⟨rfl, rfl⟩; rw [HI.out])
      go_ret
      exact ⟨ret_bool (goodT_len (by omega)).symm, B0⟩

end Go.Proofs.Ytipgepienagplaa

/- Contracts of impl.plainRows, spec.l3Distinct. -/
namespace Go.Proofs.Ytipgepienagplaa
open Go.RowKit Go.Shelf

theorem plainRows_any (gf : Nat) (lb : Array Value) (w : World) :
    Calls Try.prog 124 #[.func (.func gf) #[] lb] w fun e w' => e = .returned (.func (.func 148) #[] #[.pointer (some ⟨w.heap.size, 0, none⟩)]) ∧ w' = w.alloc (.cells #[.func (.func gf) #[] lb] 161) := by
  go_enter Try.func124, Try.ntmps124
  go_wp2
  go_ret
  exact ⟨rfl, rfl⟩

/-- The rows that are there, once. -/
def distW (ts : List WRow) : List WRow := ts.filterMap plainG
def distB (p : Int) (ts : List WRow) : Bool := goodT p ts && goodT p (distW ts)
theorem distB_no {p : Int} {ts : List WRow} (h : goodT p ts = false) : distB p ts = false := by simp [distB, h]
theorem distB_yes {p : Int} {ts : List WRow} (h : goodT p ts = true) : distB p ts = goodT p (distW ts) := by simp [distB, h]
theorem plainG_some {t s : WRow} (h : plainG t = some s) : s = (t.1, 1) ∧ 0 < t.2 := by
  unfold plainG at h
  split at h
  · exact ⟨by simpa using h.symm, by assumption⟩
  · cases h
theorem tells_dist {q : Nat} {ts : List WRow} (h : goodT q ts = true) : Tells q (sumAt (distW ts) (distW ts).length 1) (distW ts) :=
  tells_self (rises_some (fun t s hs => by rw [(plainG_some hs).1]) (goodT_rises h)) (fun t ht => by obtain ⟨s, hs, e⟩ := some_mem ht; rw [(plainG_some e).1]; simp) (fun t ht => by obtain ⟨s, hs, e⟩ := some_mem ht; rw [(plainG_some e).1]; exact goodT_mem h s hs)
theorem distW_len (ts : List WRow) : (distW ts).length ≤ ts.length := List.length_filterMap_le _ _
theorem distW_ok {p : Int} {ts : List WRow} (h : goodT p ts = true) : ∀ t ∈ distW ts, good t.1 = true ∧ -1000000000000 ≤ t.2 ∧ t.2 ≤ 1000000000000 := fun t ht => by
  obtain ⟨s, hs, e⟩ := some_mem ht
  rw [(plainG_some e).1]
  exact ⟨(goodL_mem (goodL_of_goodT h) s hs).1, by simp, by simp⟩

theorem distW_take (ts : List WRow) (k : Nat) (h : k < ts.length) : distW (ts.take (k + 1)) = distW (ts.take k) ++ (plainG (wat ts k)).toList := by
  unfold distW
  rw [wtake_succ ts k h, List.filterMap_append, List.filterMap_cons]
  cases plainG (wat ts k) <;> rfl

set_option maxRecDepth 100000 in
set_option maxHeartbeats 4000000 in
theorem l3Distinct_any (a : Option Addr) (n c : Nat) (ts : List WRow) (w : World) (hz : ts.length = n) (hn : n ≤ 2048) (hg : ∀ s ∈ ts, s.1.length ≤ 6) (ha : AtM w a ts) :
    Calls Try.prog 55 #[.slice a n c] w fun e w' => ∃ r k d, e = .returned (.slice r k d) ∧ (distW ts).length = k ∧ AtM w' r (distW ts) ∧ Below w.heap.size w w' := by
  obtain ⟨i0, hi, hz0, hz1, hz2⟩ := info_parts Try.infoW
  go_enter Try.func55, Try.ntmps55
  go_wp2
  go_loopw [3, 8] (fun o i wr => ∃ (k m : Nat) (r : Option Addr) (d : Nat) (cs : List Value), k ≤ n ∧ m ≤ k ∧ i = .int .i64 k ∧ o = .slice r m d ∧ (distW (ts.take k)).length = m ∧ wr.ownsRow w.heap.size 123 2 (.slice r m d) m cs ∧ Means w cs (distW (ts.take k)) ∧ Below w.heap.size w wr) (fun _ i _ => n - (intOf i).toNat)
  case atStart => exact ⟨0, 0, none, 0, [], Nat.zero_le _, Nat.le_refl _, rfl, rfl, rfl, World.ownsRow_nil _ _ _ _, trivial, Below.refl _ _⟩
  case round =>
    obtain ⟨k, m, r, d, cs, hk, hmk, rfl, rfl, hml, ho, hme, hbw⟩ := hrel
    by_cases hlt : k < n
    · obtain ⟨b, off, rfl, hc⟩ := ha.some (by omega)
      obtain ⟨q, dd, hcx, hwx, hm1, hnil, hat⟩ := hc k (by omega)
      have hgk := at_of_mem hg k (by omega)
      have HS := Hid.mk (distW_take ts k (by omega))
      have hki : (k : Int) < (n : Int) := by omega
      generalize wat ts k = Y at *
      obtain ⟨ys, x⟩ := Y
      simp only at hcx hwx hat hm1 hgk
      obtain ⟨m2, hmm⟩ : ∃ m2, ys.length = m2 := ⟨_, rfl⟩
      rw [hmm] at hcx hm1 hgk
      have HM := Hid.mk hmm
      have HATW := Hid.mk hat
      have hcx := cell_later hbw hcx
      have hwx := cell_later hbw hwx
      have zz := hbw.size
      clear hmm hc hat
      by_cases hx : 0 < x
      · have HSX : Hid (distW (ts.take (k + 1)) = distW (ts.take k) ++ [(ys, 1)]) := by show _ = _; rw [HS.out]; unfold plainG; rw [if_pos hx]; rfl
        have oV := ho.alloc (.cells #[.slice q m2 dd, .int .i64 x] 123)
        go_wp2_with (at_builtin; refine wpList_append_lies _ rfl (.tmp 15) (.tmp 19) 59 rfl w.heap.size 123 i0 (.agg #[.slice none 0 0, .int .i64 0]) 2 32 Try.underlying59 hi hz0 hz1 hz2 rfl (by decide) (.slice r m d) m cs rfl (oV.alloc _) ⟨wr.heap.size + 1, 0, none⟩ 1 1 [.slice q m2 dd, .int .i64 1] (by simp [Act.eval]) rfl (by simpa using news_at (wr.alloc (.cells #[.slice q m2 dd, .int .i64 x] 123)) #[.slice q m2 dd, .int .i64 1] 123) (by intro u hu; simp at hu; rcases hu with rfl | rfl <;> rfl) (by decide) (by unfold maxLen; omega) (by omega) (by simp; omega) (wr.heap.size + 1 + 1) (by simp) ?_; intro g2 cap2 w4 hown4 hgrow4 hat4 hlt4)
        have hgr : wr.grownBy w4 (Value.slice r m d).ownBlock := grown_alloc (grown_alloc hgrow4)
        have HB := Hid.mk (hbw.grown hgr hbw.size (fun j hj => (ho.lt j hj).1))
        have HO := Hid.mk hown4
        have HME : Hid (Means w (cs ++ [.slice q m2 dd, .int .i64 1]) (distW (ts.take (k + 1)))) := by
          show Means _ _ _
          rw [HSX.out]
          exact hme.append (Means.one HM.out (by omega) hnil HATW.out)
        have HL : Hid ((distW (ts.take (k + 1))).length = m + 1) := by show _ = _; rw [HSX.out, List.length_append, hml]; rfl
        clear hown4 hgrow4 hat4 hlt4 hgr ho hme hbw hcx hwx oV hml
        go_wp2
        go_roundw
        case rel => exact ⟨k + 1, m + 1, _, _, _, by omega, by omega, by go_num, rfl, HL.out, HO.out, HME.out, HB.out⟩
        case measure => simp [intOf]; omega
      · have HSX : Hid (distW (ts.take (k + 1)) = distW (ts.take k)) := by show _ = _; rw [HS.out]; unfold plainG; rw [if_neg hx]; simp
        have hxx : x ≤ 0 := by omega
        have HO := Hid.mk (ho.alloc (.cells #[.slice q m2 dd, .int .i64 x] 123))
        have HB := Hid.mk (hbw.alloc hbw.size (.cells #[.slice q m2 dd, .int .i64 x] 123))
        have HL : Hid ((distW (ts.take (k + 1))).length = m) := by show _ = _; rw [HSX.out, hml]
        have HME : Hid (Means w cs (distW (ts.take (k + 1)))) := by show Means _ _ _; rw [HSX.out]; exact hme
        clear ho hme hbw hml
        go_wp2
        go_roundw
        case rel => exact ⟨k + 1, m, _, _, _, by omega, by omega, by go_num, rfl, HL.out, HO.out, HME.out, HB.out⟩
        case measure => simp [intOf]; omega
    · obtain rfl : k = n := by omega
      rw [wtake_all' ts hz] at hme hml
      go_wp2
      go_ret
      exact ⟨_, _, _, rfl, hml, (hme.below hbw).ownedM hml ho, hbw⟩

end Go.Proofs.Ytipgepienagplaa
