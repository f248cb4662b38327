/- Several texts of one proof, in build order: L2Tell, TabU, PlrA, SjP, Pick. -/
import Derived.Test.YtkcmlphpilggpaaM6
import Derived.Test.YtkcmlphpilggpaaM17
import Derived.Test.YtkcmlphpilggpaaM11
import Derived.Test.YtkcmlphpilggpaaM13
import Derived.Test.YtkcmlphpilggpaaM16
import Derived.Test.YtkcmlphpilggpaaM12
import Derived.Test.YtkcmlphpilggpaaM5
import Derived.Test.YtkcmlphpilggpaaM14
import Derived.Deep.AppendLies
import Derived.Deep.RegionLaw

/- Contract of spec.l2Tell. -/
namespace Go.Proofs.Ytkcmlphpilggpaa
open Go.RowKit

theorem wtake_all' (ts : List WRow) {n : Nat} (h : ts.length = n) : ts.take n = ts := List.take_of_length_le (by omega)

set_option maxRecDepth 100000 in
set_option maxHeartbeats 8000000 in
theorem l2Tell_any (a : Option Addr) (n c : Nat) (ts : List WRow) (p : Int) (w : World) (hz : ts.length = n) (hn : n ≤ 1048576) (hgr : ∀ k, k < n → (wat ts k).1.length ≤ 1048576) (ha : AtM w a ts) :
    Calls Try.prog 43 #[.int .i64 p, .slice a n c] w fun e w' => TabRet e w' w.heap.size (goodT p ts) (tellP p ts) (tellT p ts) ∧ Below w.heap.size w w' := by
  obtain ⟨i0, hi, hz0, hz1, hz2⟩ := info_parts Try.infoW
  obtain ⟨W, hW⟩ : ∃ W, W = (w.alloc (.cells #[.int .i64 0, .slice none 0 0] 47)).alloc (.cells #[.int .i64 p, .slice none 0 0] 47) := ⟨_, rfl⟩
  have zW : W.heap.size = w.heap.size + 1 + 1 := by rw [hW]; simp
  have B0 : Below w.heap.size w W := by rw [hW]; exact ((Below.refl _ _).alloc (Nat.le_refl _) _).alloc (by simp) _
  have q0 : W.heap[w.heap.size]? = some (.cells #[.int .i64 0, .slice none 0 0] 47 (0, 0)) := by
    rw [hW]; exact (Below.heap_alloc _ _ _ (by simp)).trans (heap_alloc_new w _)
  have T0 : TabVar W (w.heap.size + 1) p none 0 0 [] [] := by rw [hW]; have := TabVar.new (w.alloc (.cells #[.int .i64 0, .slice none 0 0] 47)) p; rwa [World.size_alloc] at this
  go_enter Try.func43, Try.ntmps43
  go_wp2
  rw [← hW]
  clear hW
  go_loopw [13] (fun i wr => ∃ (k : Nat) (r : Option Addr) (d : Nat) (cells : List Value), k ≤ n ∧ i = .int .i64 k ∧ TabVar wr (w.heap.size + 1) p r k d (ts.take k) cells ∧ Below (w.heap.size + 1) W wr) (fun i _ => n - (intOf i).toNat)
  case atStart => exact ⟨0, none, 0, [], Nat.zero_le _, rfl, T0, Below.refl _ _⟩
  case round =>
    clear T0
    obtain ⟨k, r, d, cells, hk, rfl, hv, hbw⟩ := hrel
    have zR := hv.lt
    have B2 : Below w.heap.size w wr := B0.trans (hbw.mono (by omega))
    have HA := ha.below B2
    by_cases hlt : k < n
    · obtain ⟨b, off, rfl, hc⟩ := HA.some (by omega)
      obtain ⟨q, dd, hcx, hwx, hm, hnil, hat⟩ := hc k (by omega)
      have hgk := hgr k hlt
      have HS := Hid.mk (wtake_succ ts k (by omega))
      have hki : (k : Int) < (n : Int) := by omega
      generalize wat ts k = Y at *
      obtain ⟨ys, x⟩ := Y
      simp only at hcx hwx hat hm hgk
      obtain ⟨m, hmm⟩ : ∃ m, ys.length = m := ⟨_, rfl⟩
      rw [hmm] at hcx hm hgk
      have HM := Hid.mk hmm
      clear hmm hc
      obtain ⟨V, hV⟩ : ∃ V, V = wr.alloc (.cells #[.slice q m dd, .int .i64 x] 99) := ⟨_, rfl⟩
      have hbV : Below wr.heap.size wr V := by rw [hV]; exact (Below.refl _ _).alloc (Nat.le_refl _) _
      have c3 : V.cell? ⟨wr.heap.size, 0, none⟩ = some (.slice q m dd) := by rw [hV]; exact pair0 wr _ _ _
      have c4 : V.cell? ⟨wr.heap.size, 1, none⟩ = some (.int .i64 x) := by rw [hV]; exact pair1 wr _ _ _
      have hv0 := hv
      have hvV := hv.below hbV
      have hatV := hat.below hbV
      have BW : Below (w.heap.size + 1) W V := hbw.trans (hbV.mono (by omega))
      have zV : wr.heap.size < V.heap.size := World.block_lt_of_cell? _ _ c3
      have t1 := hvV.cell1
      have f1 := hvV.frozen1
      go_wp2_with fail
      rw [← hV]
      clear hV hcx hwx hat hbV hv hbw B2 HA

      have HTB : Hid (some wr.heap.size ≠ (Value.slice r k d).ownBlock) := fun e => by have := hvV.2.outerLt _ e.symm; have := (hv0.own.lt _ e.symm).2; omega
      refine wp_region_held_drew (S := fun w' => w'.cell? ⟨wr.heap.size, 0, none⟩ = some (.slice q m dd) ∧ w'.cell? ⟨wr.heap.size, 1, none⟩ = some (.int .i64 x)) (by kernel_rfl) ?_ (fun hHeld => ?_)
      · (try dsimp only)
        exact ⟨c3, c4⟩
      refine tk 0 ?_
      refine tk 2 ?_
      refine tk 3 ?_
      refine tk 5 ?_
      refine tk 6 ?_
      refine wpAnyH_ready (rs := [1, 4]) (by kernel_rfl) (by simp) ?_
      refine AllReadyH.cons (o := ?_) ?_ (fun K hK => ?_) ?_
      rotate_left
      · (simp only [List.getElem?_toArray, List.getElem?_cons_zero, List.getElem?_cons_succ]; rfl)
      · go_simp
        (try go_wp2_with fail)
        refine hK.out _ _ ?_ (fun hHeld' => ?_)
        · (try dsimp only)
          exact ⟨c3, c4⟩
        clear hK K hHeld
        have hHeld := hHeld'
        clear hHeld'
        (try simp only [Act.put, List.setIfInBounds_toArray, List.set_cons_zero, List.set_cons_succ])
        refine tr 4 (fun K hK => ?_)
        go_simp
        go_at_call 71; refine (l2OwnRow_any _ _ _ ys _ HM.out hgk hnil hatV.drew).mono ?_; rintro e w2 ⟨r2, d2, rfl, ho2, hb2⟩; have e3 := cell_later hb2 c3; have e4 := cell_later hb2 c4; have u1 := cell_later hb2 t1
        (try go_wp2_with fail)
        refine hK.out _ _ ?_ (fun hHeld' => ?_)
        · (try dsimp only)
          exact ⟨e3, e4⟩
        clear hK K hHeld
        have hHeld := hHeld'
        clear hHeld'
        (try simp only [Act.put, List.setIfInBounds_toArray, List.set_cons_zero, List.set_cons_succ])
        have hv2 := hvV.drew.below hb2
        have z2 : V.heap.size ≤ w2.heap.size := hb2.size
        have hTb : some wr.heap.size ≠ (Value.slice r k d).ownBlock := HTB.out
        refine tk 7 ?_
        refine tr 8 (fun K hK => ?_)
        go_simp
        skip
        (try go_wp2_with fail)
        refine hK.out _ _ ?_ (fun hHeld' => ?_)
        · (try dsimp only)
          exact ⟨cell_later ((Below.refl _ _).alloc (Nat.le_refl _) _) e3, cell_later ((Below.refl _ _).alloc (Nat.le_refl _) _) e4⟩
        clear hK K hHeld
        have hHeld := hHeld'
        clear hHeld'
        (try simp only [Act.put, List.setIfInBounds_toArray, List.set_cons_zero, List.set_cons_succ])
        refine tr 9 (fun K hK => ?_)
        refine step_append_lies _ rfl (.tmp 18) (.tmp 25) 45 rfl (w.heap.size + 1 + 1) 99 i0 (.agg #[.slice none 0 0, .int .i64 0]) 2 32 Try.underlying45 hi hz0 hz1 hz2 rfl (by decide) (.slice r k d) k cells (by simp [Act.eval]) (hv2.own.alloc _) ⟨w2.heap.size, 0, none⟩ 1 1 [.slice r2 m d2, .int .i64 x] (by simp [Act.eval]) rfl (by simpa using news_at w2 #[.slice r2 m d2, .int .i64 x] 99) (by intro u hu; simp at hu; rcases hu with rfl | rfl <;> rfl) (by decide) (by unfold maxLen; omega) (by omega) (by simp; omega) (w2.heap.size + 1) (by simp) ?_; intro g4 cap4 w4 hown4 hgrow4 hat4 hlt4; have bq := hgrow4.cell (v := .slice q m dd) (a := ⟨wr.heap.size, 0, none⟩) (cell_later ((Below.refl _ _).alloc (Nat.le_refl _) _) e3) hTb; have bq' := hgrow4.cell (v := .int .i64 x) (a := ⟨wr.heap.size, 1, none⟩) (cell_later ((Below.refl _ _).alloc (Nat.le_refl _) _) e4) hTb; obtain ⟨s1, s2, hv4⟩ := hvV.drew.pushed hb2 HM.out ho2 hown4 hgrow4 hat4 hlt4
        refine hK.out _ _ ?_ (fun hHeld' => ?_)
        · (try dsimp only)
          exact ⟨bq, bq'⟩
        clear hK K hHeld
        have hHeld := hHeld'
        clear hHeld'
        (try simp only [Act.put, List.setIfInBounds_toArray, List.set_cons_zero, List.set_cons_succ])
        refine tk 10 ?_
        refine tr 11 (fun K hK => ?_)
        go_simp
        skip
        (try go_wp2_with fail)
        refine hK.out _ _ ?_ (fun hHeld' => ?_)
        · (try dsimp only)
          exact ⟨keep_far bq (by omega), keep_far bq' (by omega)⟩
        clear hK K hHeld
        have hHeld := hHeld'
        clear hHeld'
        (try simp only [Act.put, List.setIfInBounds_toArray, List.set_cons_zero, List.set_cons_succ])
        refine wpAnyH_done (by kernel_rfl) ?_ _
        have HB := Hid.mk (hvV.drew.pushed_below (v := .slice (some ⟨g4, 0, none⟩) (k + 1) cap4) hb2 hgrow4 BW.drew (Nat.le_refl _))
        rw [← HS.out] at hv4
        have HV := Hid.mk hv4
        clear hv4 hown4 hgrow4 hvV BW s1 s2 bq bq' e3 e4 u1 hv2 ho2 hb2 t1 f1 c3 c4 hHeld
        go_wp2
        go_roundw
        case rel => exact ⟨k + 1, _, _, _, by omega, by go_num, HV.out, HB.out⟩
        case measure => simp [intOf]; omega
      refine AllReadyH.cons (o := ?_) ?_ (fun K hK => ?_) AllReadyH.nil
      rotate_left
      · (simp only [List.getElem?_toArray, List.getElem?_cons_zero, List.getElem?_cons_succ]; rfl)
      · go_simp
        go_at_call 71; refine (l2OwnRow_any _ _ _ ys _ HM.out hgk hnil hatV.drew).mono ?_; rintro e w2 ⟨r2, d2, rfl, ho2, hb2⟩; have e3 := cell_later hb2 c3; have e4 := cell_later hb2 c4; have u1 := cell_later hb2 t1
        (try go_wp2_with fail)
        refine hK.out _ _ ?_ (fun hHeld' => ?_)
        · (try dsimp only)
          exact ⟨e3, e4⟩
        clear hK K hHeld
        have hHeld := hHeld'
        clear hHeld'
        (try simp only [Act.put, List.setIfInBounds_toArray, List.set_cons_zero, List.set_cons_succ])
        have hv2 := hvV.drew.below hb2
        have z2 : V.heap.size ≤ w2.heap.size := hb2.size
        have hTb : some wr.heap.size ≠ (Value.slice r k d).ownBlock := HTB.out
        refine tk 7 ?_
        refine wpAnyH_ready (rs := [1, 8]) (by kernel_rfl) (by simp) ?_
        refine AllReadyH.cons (o := ?_) ?_ (fun K hK => ?_) ?_
        rotate_left
        · (simp only [List.getElem?_toArray, List.getElem?_cons_zero, List.getElem?_cons_succ]; rfl)
        · go_simp
          (try go_wp2_with fail)
          refine hK.out _ _ ?_ (fun hHeld' => ?_)
          · (try dsimp only)
            exact ⟨e3, e4⟩
          clear hK K hHeld
          have hHeld := hHeld'
          clear hHeld'
          (try simp only [Act.put, List.setIfInBounds_toArray, List.set_cons_zero, List.set_cons_succ])
          refine tr 8 (fun K hK => ?_)
          go_simp
          skip
          (try go_wp2_with fail)
          refine hK.out _ _ ?_ (fun hHeld' => ?_)
          · (try dsimp only)
            exact ⟨cell_later ((Below.refl _ _).alloc (Nat.le_refl _) _) e3, cell_later ((Below.refl _ _).alloc (Nat.le_refl _) _) e4⟩
          clear hK K hHeld
          have hHeld := hHeld'
          clear hHeld'
          (try simp only [Act.put, List.setIfInBounds_toArray, List.set_cons_zero, List.set_cons_succ])
          refine tr 9 (fun K hK => ?_)
          refine step_append_lies _ rfl (.tmp 18) (.tmp 25) 45 rfl (w.heap.size + 1 + 1) 99 i0 (.agg #[.slice none 0 0, .int .i64 0]) 2 32 Try.underlying45 hi hz0 hz1 hz2 rfl (by decide) (.slice r k d) k cells (by simp [Act.eval]) (hv2.own.alloc _) ⟨w2.heap.size, 0, none⟩ 1 1 [.slice r2 m d2, .int .i64 x] (by simp [Act.eval]) rfl (by simpa using news_at w2 #[.slice r2 m d2, .int .i64 x] 99) (by intro u hu; simp at hu; rcases hu with rfl | rfl <;> rfl) (by decide) (by unfold maxLen; omega) (by omega) (by simp; omega) (w2.heap.size + 1) (by simp) ?_; intro g4 cap4 w4 hown4 hgrow4 hat4 hlt4; have bq := hgrow4.cell (v := .slice q m dd) (a := ⟨wr.heap.size, 0, none⟩) (cell_later ((Below.refl _ _).alloc (Nat.le_refl _) _) e3) hTb; have bq' := hgrow4.cell (v := .int .i64 x) (a := ⟨wr.heap.size, 1, none⟩) (cell_later ((Below.refl _ _).alloc (Nat.le_refl _) _) e4) hTb; obtain ⟨s1, s2, hv4⟩ := hvV.drew.pushed hb2 HM.out ho2 hown4 hgrow4 hat4 hlt4
          refine hK.out _ _ ?_ (fun hHeld' => ?_)
          · (try dsimp only)
            exact ⟨bq, bq'⟩
          clear hK K hHeld
          have hHeld := hHeld'
          clear hHeld'
          (try simp only [Act.put, List.setIfInBounds_toArray, List.set_cons_zero, List.set_cons_succ])
          refine tk 10 ?_
          refine tr 11 (fun K hK => ?_)
          go_simp
          skip
          (try go_wp2_with fail)
          refine hK.out _ _ ?_ (fun hHeld' => ?_)
          · (try dsimp only)
            exact ⟨keep_far bq (by omega), keep_far bq' (by omega)⟩
          clear hK K hHeld
          have hHeld := hHeld'
          clear hHeld'
          (try simp only [Act.put, List.setIfInBounds_toArray, List.set_cons_zero, List.set_cons_succ])
          refine wpAnyH_done (by kernel_rfl) ?_ _
          have HB := Hid.mk (hvV.drew.pushed_below (v := .slice (some ⟨g4, 0, none⟩) (k + 1) cap4) hb2 hgrow4 BW.drew (Nat.le_refl _))
          rw [← HS.out] at hv4
          have HV := Hid.mk hv4
          clear hv4 hown4 hgrow4 hvV BW s1 s2 bq bq' e3 e4 u1 hv2 ho2 hb2 t1 f1 c3 c4 hHeld
          go_wp2
          go_roundw
          case rel => exact ⟨k + 1, _, _, _, by omega, by go_num, HV.out, HB.out⟩
          case measure => simp [intOf]; omega
        refine AllReadyH.cons (o := ?_) ?_ (fun K hK => ?_) AllReadyH.nil
        rotate_left
        · (simp only [List.getElem?_toArray, List.getElem?_cons_zero, List.getElem?_cons_succ]; rfl)
        · go_simp
          (try go_wp2_with fail)
          refine hK.out _ _ ?_ (fun hHeld' => ?_)
          · (try dsimp only)
            exact ⟨cell_later ((Below.refl _ _).alloc (Nat.le_refl _) _) e3, cell_later ((Below.refl _ _).alloc (Nat.le_refl _) _) e4⟩
          clear hK K hHeld
          have hHeld := hHeld'
          clear hHeld'
          (try simp only [Act.put, List.setIfInBounds_toArray, List.set_cons_zero, List.set_cons_succ])
          have u2 := cell_later ((Below.refl _ _).alloc (Nat.le_refl _) (.cells #[.slice r2 m d2, .int .i64 x] 99)) u1
          refine tr 1 (fun K hK => ?_)
          go_simp
          skip
          (try go_wp2_with fail)
          refine hK.out _ _ ?_ (fun hHeld' => ?_)
          · (try dsimp only)
            exact ⟨cell_later ((Below.refl _ _).alloc (Nat.le_refl _) _) e3, cell_later ((Below.refl _ _).alloc (Nat.le_refl _) _) e4⟩
          clear hK K hHeld
          have hHeld := hHeld'
          clear hHeld'
          (try simp only [Act.put, List.setIfInBounds_toArray, List.set_cons_zero, List.set_cons_succ])
          refine tr 9 (fun K hK => ?_)
          refine step_append_lies _ rfl (.tmp 18) (.tmp 25) 45 rfl (w.heap.size + 1 + 1) 99 i0 (.agg #[.slice none 0 0, .int .i64 0]) 2 32 Try.underlying45 hi hz0 hz1 hz2 rfl (by decide) (.slice r k d) k cells (by simp [Act.eval]) (hv2.own.alloc _) ⟨w2.heap.size, 0, none⟩ 1 1 [.slice r2 m d2, .int .i64 x] (by simp [Act.eval]) rfl (by simpa using news_at w2 #[.slice r2 m d2, .int .i64 x] 99) (by intro u hu; simp at hu; rcases hu with rfl | rfl <;> rfl) (by decide) (by unfold maxLen; omega) (by omega) (by simp; omega) (w2.heap.size + 1) (by simp) ?_; intro g4 cap4 w4 hown4 hgrow4 hat4 hlt4; have bq := hgrow4.cell (v := .slice q m dd) (a := ⟨wr.heap.size, 0, none⟩) (cell_later ((Below.refl _ _).alloc (Nat.le_refl _) _) e3) hTb; have bq' := hgrow4.cell (v := .int .i64 x) (a := ⟨wr.heap.size, 1, none⟩) (cell_later ((Below.refl _ _).alloc (Nat.le_refl _) _) e4) hTb; obtain ⟨s1, s2, hv4⟩ := hvV.drew.pushed hb2 HM.out ho2 hown4 hgrow4 hat4 hlt4
          refine hK.out _ _ ?_ (fun hHeld' => ?_)
          · (try dsimp only)
            exact ⟨bq, bq'⟩
          clear hK K hHeld
          have hHeld := hHeld'
          clear hHeld'
          (try simp only [Act.put, List.setIfInBounds_toArray, List.set_cons_zero, List.set_cons_succ])
          refine tk 10 ?_
          refine tr 11 (fun K hK => ?_)
          go_simp
          skip
          (try go_wp2_with fail)
          refine hK.out _ _ ?_ (fun hHeld' => ?_)
          · (try dsimp only)
            exact ⟨keep_far bq (by omega), keep_far bq' (by omega)⟩
          clear hK K hHeld
          have hHeld := hHeld'
          clear hHeld'
          (try simp only [Act.put, List.setIfInBounds_toArray, List.set_cons_zero, List.set_cons_succ])
          refine wpAnyH_done (by kernel_rfl) ?_ _
          have HB := Hid.mk (hvV.drew.pushed_below (v := .slice (some ⟨g4, 0, none⟩) (k + 1) cap4) hb2 hgrow4 BW.drew (Nat.le_refl _))
          rw [← HS.out] at hv4
          have HV := Hid.mk hv4
          clear hv4 hown4 hgrow4 hvV BW s1 s2 bq bq' e3 e4 u1 hv2 ho2 hb2 t1 f1 c3 c4 hHeld
          go_wp2
          go_roundw
          case rel => exact ⟨k + 1, _, _, _, by omega, by go_num, HV.out, HB.out⟩
          case measure => simp [intOf]; omega
    · obtain rfl : k = n := by omega
      rw [wtake_all' ts hz] at hv
      have e0 := (hbw.cell (p := ⟨w.heap.size, 0, none⟩) (by simp)).trans (show W.cell? ⟨w.heap.size, 0, none⟩ = some (.int .i64 0) by rw [cell_of_row W _ 0 _ _ (0, 0) q0]; rfl)
      have e1 := (hbw.cell (p := ⟨w.heap.size, 1, none⟩) (by simp)).trans (show W.cell? ⟨w.heap.size, 1, none⟩ = some (.slice none 0 0) by rw [cell_of_row W _ 1 _ _ (0, 0) q0]; rfl)
      have f0 := (hbw.frozen (p := ⟨w.heap.size, 0, none⟩) (by simp)).trans (frozen_of_row W _ 0 _ _ q0)
      have f1 := (hbw.frozen (p := ⟨w.heap.size, 1, none⟩) (by simp)).trans (frozen_of_row W _ 1 _ _ q0)
      have t0 := hv.cell0
      have t1 := hv.cell1
      have HW : AtW wr r ts := hv.2.atW (fun i hi => by have := hgr i hi; omega)
      go_wp2_with fail
      refine (specGoodTable_any _ _ _ ts p _ hz (by omega) HW).mono ?_
      rintro e w2 ⟨rfl, hb2⟩
      have g0 := cell_later hb2 e0
      have g1 := cell_later hb2 e1
      have k0 := frozen_later hb2 e0 f0
      have k1 := frozen_later hb2 e1 f1
      have s0 := cell_later hb2 t0
      have s1 := cell_later hb2 t1
      have hv2 := hv.below hb2
      have B3 := B2.trans (hb2.mono B2.size)
      clear e0 e1 f0 f1 t0 t1 hv HW HA hb2 hbw q0 ha
      cases hg : goodT p ts with
      | false =>
        have HG := Hid.mk hg
        clear hg
        go_wp2
        refine bodyPost_ret (v := .tuple #[.agg #[.int .i64 0, .slice none 0 0], .bool false]) (by simp [results, Try.results43, go_sem, g0, g1]) rfl ⟨⟨none, 0, 0, [], ?_, ?_⟩, ?_⟩
        · simp [tellP, HG.out]
        · simp only [tellT, HG.out]
          exact OwnWk.start rfl (Nat.le_refl _) (World.ownsRow_nil _ _ _ _) (fun b hb => by cases hb)
        · exact (B3.setCell (by simp) _).setCell (by simp) _
      | true =>
        have HG := Hid.mk hg
        clear hg
        go_wp2
        refine bodyPost_ret (v := .tuple #[.agg #[.int .i64 p, .slice r k d], .bool true]) (by simp [results, Try.results43, go_sem, g0, g1]) rfl ⟨⟨r, k, d, cells, ?_, ?_⟩, ?_⟩
        · simp [tellP, HG.out]
        · simp only [tellT, HG.out, if_true]
          exact ((hv2.2.setCell (a0 := ⟨w.heap.size, 0, none⟩) (.inl (by simp; omega)) _).setCell (a0 := ⟨w.heap.size, 1, none⟩) (.inl (by simp; omega)) _).widen (by omega) (by simp [World.setCell]) (Nat.le_refl _)
        · exact (B3.setCell (by simp) _).setCell (by simp) _

end Go.Proofs.Ytkcmlphpilggpaa

/- Plain facts on tables that are good, and on a result's variable behind 'return f(..)'. -/
namespace Go.Proofs.Ytkcmlphpilggpaa
open Go.RowKit

theorem OwnWk.stored {w : World} {lo hi R : Nat} {te ti : TypeId} {a : Option Addr} {n c : Nat} {ts : List WRow} {cells : List Value} {lo' : Nat} (h : OwnW w lo hi te ti a n c ts cells) (hR : R < lo) (hlo : lo' ≤ lo) (u v : Value) :
    OwnW ((w.setCell ⟨R, 0, none⟩ u).setCell ⟨R, 1, none⟩ v) lo' ((w.setCell ⟨R, 0, none⟩ u).setCell ⟨R, 1, none⟩ v).heap.size te ti a n c ts cells :=
  ((h.setCell (a0 := ⟨R, 0, none⟩) (.inl hR) u).setCell (a0 := ⟨R, 1, none⟩) (.inl hR) v).widen hlo (by have := h.top; simp [World.setCell]; omega) (Nat.le_refl _)
theorem alloc_keeps {w : World} {a : Addr} {v : Value} (h : w.cell? a = some v) (o : Obj) : (w.alloc o).cell? a = some v := cell_later ((Below.refl _ _).alloc (Nat.le_refl _) o) h
theorem goodT_noZero {p : Int} {ts : List WRow} (h : goodT p ts = true) : NoZero ts := fun t ht => by
  obtain ⟨k, hk, rfl⟩ := List.getElem_of_mem ht
  have := (goodT_parts h).2.2 k hk
  simp only [stepB, Bool.and_eq_true, Bool.not_eq_true', decide_eq_false_iff_not] at this
  have e : wat ts k = ts[k] := by simp [wat, List.getD, hk]
  rw [e] at this
  exact this.2.1
theorem goodT_len60 {p : Int} {ts : List WRow} (h : goodT p ts = true) : ts.length ≤ 60 := (goodT_parts h).2.1
theorem goodT_cells {p : Int} {ts : List WRow} (h : goodT p ts = true) (k : Nat) (hk : k < ts.length) : good (wat ts k).1 = true ∧ -1000000 ≤ (wat ts k).2 ∧ (wat ts k).2 ≤ 1000000 := by
  have := goodW_cells (goodL_at (goodL_of_goodT h) k hk)
  exact ⟨this.1, this.2.2⟩
theorem goodT_mem {q : Nat} {ts : List WRow} (h : goodT q ts = true) : ∀ t ∈ ts, good t.1 = true ∧ t.1.length = q := fun t ht => by
  have := goodL_mem (goodL_of_goodT h) t ht
  exact ⟨this.1, by omega⟩
theorem goodT_six {p : Int} {ts : List WRow} (h : goodT p ts = true) : ∀ t ∈ ts, t.1.length ≤ 6 ∧ -1000000 ≤ t.2 ∧ t.2 ≤ 1000000 := fun t ht => by
  have := goodL_mem (goodL_of_goodT h) t ht
  exact ⟨good_len this.1, this.2.2⟩
theorem at_of_mem {ts : List WRow} {Q : WRow → Prop} (h : ∀ t ∈ ts, Q t) (k : Nat) (hk : k < ts.length) : Q (wat ts k) := h _ (wat_mem hk)

/-- A rising list that has no zeros tells its own weights. -/
theorem tells_self {q : Nat} {us : List WRow} (hr : Rises us) (hn : NoZero us) (hrow : ∀ t ∈ us, good t.1 = true ∧ t.1.length = q) : Tells q (sumAt us us.length 1) us :=
  ⟨hr, hn, hrow, fun zs h1 _ => by rw [sumAt_sumW rfl 1 (fun t ht => (hrow t ht).1) h1, sumW_rises hr]; omega⟩
/-- Some of its rows, the rows as they are, rise. -/
theorem rises_some {g : WRow → Option WRow} (hg : ∀ t s, g t = some s → s.1 = t.1) {ts : List WRow} (h : Rises ts) : Rises (ts.filterMap g) := by
  unfold Rises at *
  rw [List.pairwise_filterMap]
  exact h.imp fun {a b} hab s hs t ht => by rw [hg a s hs, hg b t ht]; exact hab
theorem some_mem {g : WRow → Option WRow} {ts : List WRow} {t : WRow} (h : t ∈ ts.filterMap g) : ∃ s ∈ ts, g s = some t := List.mem_filterMap.1 h

end Go.Proofs.Ytkcmlphpilggpaa

/- The contract of impl.plainRows. -/
namespace Go.Proofs.Ytkcmlphpilggpaa
open Go.RowKit Go.Shelf

theorem plainRows_any (gf : Nat) (lb : Array Value) (w : World) :
    Calls Try.prog 81 #[.func (.func gf) #[] lb] w fun e w' => e = .returned (.func (.func 100) #[] #[.pointer (some ⟨w.heap.size, 0, none⟩)]) ∧ w' = w.alloc (.cells #[.func (.func gf) #[] lb] 115) := by
  go_enter Try.func81, Try.ntmps81
  go_wp2
  go_ret
  exact ⟨rfl, rfl⟩

end Go.Proofs.Ytkcmlphpilggpaa

/- Plain: the rows of a good table that another one has something for are a good table; how functions that hand out rows are made. -/
namespace Go.Proofs.Ytkcmlphpilggpaa
open Go.RowKit Go.Shelf

/-- The rows that another table has something for. -/
def semiW (ts ts' : List WRow) (ps : List (List Int)) : List WRow := ts.filterMap (keptG (haveB (ts'.filterMap plainG) ps))
theorem kept_someJ {keep : List Int → Bool} {t s : WRow} (h : keptG keep t = some s) : s = t := by
  unfold keptG at h
  split at h
  · simpa using h.symm
  · cases h
theorem semiW_mem {ts ts' : List WRow} {ps : List (List Int)} {t : WRow} (h : t ∈ semiW ts ts' ps) : t ∈ ts := by
  obtain ⟨s, hs, e⟩ := some_mem h
  rw [kept_someJ e]; exact hs
theorem semiW_len (ts ts' : List WRow) (ps : List (List Int)) : (semiW ts ts' ps).length ≤ ts.length := List.length_filterMap_le _ _
theorem semiW_rises {q : Int} {ts ts' : List WRow} {ps : List (List Int)} (h : goodT q ts = true) : Rises (semiW ts ts' ps) := rises_some (fun t s hs => by rw [kept_someJ hs]) (goodT_rises h)
theorem tells_semi {q : Nat} {ts ts' : List WRow} {ps : List (List Int)} (h : goodT q ts = true) : Tells q (sumAt (semiW ts ts' ps) (semiW ts ts' ps).length 1) (semiW ts ts' ps) :=
  tells_self (semiW_rises h) (fun t ht => goodT_noZero h t (semiW_mem ht)) (fun t ht => goodT_mem h t (semiW_mem ht))
theorem semiW_ok {p : Int} {ts ts' : List WRow} {ps : List (List Int)} (h : goodT p ts = true) : ∀ t ∈ semiW ts ts' ps, good t.1 = true ∧ -1000000000000 ≤ t.2 ∧ t.2 ≤ 1000000000000 := fun t ht => by
  have := goodL_mem (goodL_of_goodT h) t (semiW_mem ht)
  exact ⟨this.1, by omega, by omega⟩
theorem semiW_good {p : Int} {ts ts' : List WRow} {ps : List (List Int)} (h : goodT p ts = true) : goodT p (semiW ts ts' ps) = true := by
  obtain ⟨h1, h2, h3⟩ := goodT_parts h
  refine goodT_of h1 (Nat.le_trans (semiW_len ts ts' ps) h2) fun k hk => ?_
  have hr := semiW_rises (ts' := ts') (ps := ps) h
  have hm : wat (semiW ts ts' ps) k ∈ ts := semiW_mem (wat_mem hk)
  obtain ⟨i, hi, e⟩ := List.getElem_of_mem hm
  have hs := h3 i hi
  have ew : wat ts i = wat (semiW ts ts' ps) k := by rw [← e]; simp [wat, List.getD, hi]
  unfold stepB at hs ⊢
  rw [ew] at hs
  simp only [Bool.and_eq_true] at hs ⊢
  refine ⟨hs.1, hs.2.1, ?_⟩
  cases k with
  | zero => rfl
  | succ k =>
    have h1 := List.pairwise_iff_getElem.1 hr k (k + 1) (by omega) hk (by omega)
    have e1 : wat (semiW ts ts' ps) k = (semiW ts ts' ps)[k] := by simp [wat, List.getD, show k < (semiW ts ts' ps).length by omega]
    have e2 : wat (semiW ts ts' ps) (k + 1) = (semiW ts ts' ps)[k + 1] := by simp [wat, List.getD, hk]
    rw [show k + 1 - 1 = k by omega, e1, e2, decide_eq_true h1]; simp

theorem rowsOf_hands (a : Option Addr) (n c : Nat) (ts : List WRow) (p : Int) (w : World) (hz : ts.length = n) (hn : n ≤ 1048576) (ha : AtM w a ts) :
    Calls Try.prog 82 #[.agg #[.int .i64 p, .slice a n c]] w fun e w' => ∃ T, e = .returned (.func (.func 101) #[] #[.pointer (some ⟨T, 0, none⟩)]) ∧ HandsT Try.prog 101 #[.pointer (some ⟨T, 0, none⟩)] ts w' ∧ Below w.heap.size w w' := by
  refine (rowsOf_any a n c p w).mono ?_
  rintro e w' ⟨rfl, rfl⟩
  have hb : Below w.heap.size w (w.alloc (.cells #[.int .i64 p, .slice a n c] 47)) := (Below.refl _ _).alloc (Nat.le_refl _) _
  exact ⟨_, rfl, rowsOf1_handsT _ a n c ts _ hz hn (pair1 w _ _ _) (ha.below hb), hb⟩
theorem plainRows_hands (gf : Nat) (lb : Array Value) (xs : List WRow) (w : World) (eg : ∀ args w, (callFunc gf args).run Try.prog w = .ok (.enter gf args) w) (hH : HandsT Try.prog gf lb xs w) :
    Calls Try.prog 81 #[.func (.func gf) #[] lb] w fun e w' => ∃ T, e = .returned (.func (.func 100) #[] #[.pointer (some ⟨T, 0, none⟩)]) ∧ HandsT Try.prog 100 #[.pointer (some ⟨T, 0, none⟩)] (xs.filterMap plainG) w' ∧ Below w.heap.size w w' := by
  refine (plainRows_any gf lb w).mono ?_
  rintro e w' ⟨rfl, rfl⟩
  have hb : Below w.heap.size w (w.alloc (.cells #[.func (.func gf) #[] lb] 115)) := (Below.refl _ _).alloc (Nat.le_refl _) _
  exact ⟨_, rfl, plainRows1_handsT _ gf lb xs _ (by simp) eg (hH.later hb), hb⟩
theorem keptRowsB_hands (gf kf : Nat) (lb : Array Value) (rv : Value) (xs : List WRow) (keep : List Int → Bool) (Q : List Int → Prop) (w : World)
    (eg : ∀ args w, (callFunc gf args).run Try.prog w = .ok (.enter gf args) w) (ek : ∀ args w, (callFunc kf args).run Try.prog w = .ok (.enter kf args) w) (hH : Hands Try.prog gf lb xs w) (hS : SieveB Try.prog kf rv keep Q w) (hQ : ∀ k, k < xs.length → Q (wat xs k).1) :
    Calls Try.prog 84 #[.func (.func gf) #[] lb, .func (.func kf) #[rv] #[]] w fun e w' => ∃ T K, e = .returned (.func (.func 103) #[] #[.pointer (some ⟨T, 0, none⟩), .pointer (some ⟨K, 0, none⟩)]) ∧ Hands Try.prog 103 #[.pointer (some ⟨T, 0, none⟩), .pointer (some ⟨K, 0, none⟩)] (xs.filterMap (keptG keep)) w' ∧ Below w.heap.size w w' := by
  refine (keptRowsB_any gf kf lb rv w).mono ?_
  rintro e w' ⟨rfl, rfl⟩
  have hb : Below w.heap.size w ((w.alloc (.cells #[.func (.func gf) #[] lb] 115)).alloc (.cells #[.func (.func kf) #[rv] #[]] 100)) := ((Below.refl _ _).alloc (Nat.le_refl _) _).alloc (by simp) _
  exact ⟨_, _, rfl, keptRowsB1_hands _ _ gf kf lb rv xs keep Q _ (alloc_keeps (by simp) _) (by have := heap_alloc_new (w.alloc (.cells #[.func (.func gf) #[] lb] 115)) (.cells #[.func (.func kf) #[rv] #[]] 100); rw [World.size_alloc] at this; rw [cell_of_row _ _ 0 _ _ (0, 0) this]; rfl) eg ek (hH.later hb) (hS.later hb) hQ, hb⟩
theorem tableOf_semi (gf : Nat) (lb : Array Value) (ts ts' : List WRow) (ps : List (List Int)) (q : Nat) (w : World) (eg : ∀ args w, (callFunc gf args).run Try.prog w = .ok (.enter gf args) w) (hH : Hands Try.prog gf lb (semiW ts ts' ps) w) (hg : goodT q ts = true) :
    Calls Try.prog 83 #[.func (.func gf) #[] lb, .int .i64 q] w fun e w' => ∃ r m d cells, e = .returned (.tuple #[.agg #[.int .i64 q, .slice r m d], .bool true]) ∧ OwnW w' w.heap.size w'.heap.size 99 3 r m d (semiW ts ts' ps) cells ∧ Below w.heap.size w w' := by
  have h6 : q ≤ 6 := by have := inc_range (goodT_parts hg).1; omega
  refine (tableOf_any gf lb (semiW ts ts' ps) q w eg hH h6 (by have := semiW_len ts ts' ps; have := goodT_len60 hg; omega) (at_of_mem (semiW_ok hg)) (fun t ht => ((tells_semi hg).rows t ht).2)).mono ?_
  rintro e w7 ⟨us, ⟨r4, m4, d4, cells4, rfl, ho4⟩, hTl, hb7⟩
  obtain rfl : us = semiW ts ts' ps := hTl.unique (tells_semi hg)
  have hgd := semiW_good (ts' := ts') (ps := ps) hg
  have e1 : tellP q (semiW ts ts' ps) = q := if_pos hgd
  have e2 : tellT q (semiW ts ts' ps) = semiW ts ts' ps := if_pos hgd
  rw [e2] at ho4
  exact ⟨r4, m4, d4, cells4, by rw [hgd, e1], ho4, hb7⟩

end Go.Proofs.Ytkcmlphpilggpaa

/- Contracts of impl.PickCells, spec.l1Columns, spec.l1Pick, spec.PickCells. -/
namespace Go.Proofs.Ytkcmlphpilggpaa
open Go.RowKit

set_option maxRecDepth 100000 in
set_option maxHeartbeats 4000000 in
theorem implPickCells (a a' : Option Addr) (n n' c c' : Nat) (zs cols : List Int) (w : World) (hz : zs.length = n) (hz' : cols.length = n') (hn : n ≤ 9223372036854775807) (hn' : n' ≤ 9223372036854775807) (ha : At w a zs) (ha' : At w a' cols) :
    Calls Try.prog 78 #[.agg #[.slice a n c], .slice a' n' c'] w fun e w' => ∃ r m d, e = .returned (.tuple #[.agg #[.slice r m d], .bool (pickOk zs cols)]) ∧
      (pickZ zs cols).length = m ∧ w'.ownsRow w.heap.size 3 1 (.slice r m d) m ((pickZ zs cols).map (.int .i64)) ∧ Below w.heap.size w w' := by
  obtain ⟨W, hW⟩ : ∃ W, W = (w.alloc (.cells #[.slice a n c] 97)).alloc (.cells #[.slice none 0 0] 97) := ⟨_, rfl⟩
  have B : Below w.heap.size w W := by rw [hW]; exact ((Below.refl _ _).alloc (Nat.le_refl _) _).alloc (by simp) _
  have HA : At W a zs := ha.below B
  have c1 : W.cell? ⟨w.heap.size, 0, none⟩ = some (.slice a n c) := by rw [hW]; simp
  have c2 : W.cell? ⟨w.heap.size + 1, 0, none⟩ = some (.slice none 0 0) := by rw [hW]; simp
  have f2 : W.frozen? ⟨w.heap.size + 1, 0, none⟩ = false := by rw [hW]; simp
  have no : pickOk zs cols = false → ∀ w2, Below w.heap.size w w2 → ∃ r m d, Ending.returned (.tuple #[.agg #[.slice none 0 0], .bool false]) = .returned (.tuple #[.agg #[.slice r m d], .bool (pickOk zs cols)]) ∧
      (pickZ zs cols).length = m ∧ w2.ownsRow w.heap.size 3 1 (.slice r m d) m ((pickZ zs cols).map (.int .i64)) ∧ Below w.heap.size w w2 := fun h w2 hb =>
    ⟨none, 0, 0, by rw [h], by simp [pickZ, h], by simp only [pickZ, h]; exact World.ownsRow_nil _ _ _ _, hb⟩
  have NO := Hid.mk no
  clear no
  cases hg : good zs with
  | false =>
    have HG := Hid.mk hg
    have HP : Hid (pickOk zs cols = false) := by simp [Hid, pickOk, hg]
    clear hg ha ha'
    go_enter Try.func78, Try.ntmps78
    go_wp2_with fail
    rw [← hW]
    refine (implGoodRow_any _ _ _ zs _ hz hn HA).mono ?_
    rintro e w1 ⟨rfl, hb1⟩
    rw [HG.out]
    have d2 := cell_later hb1 c2
    have e2 := frozen_later hb1 c2 f2
    clear hW
    go_wp2
    refine bodyPost_ret (v := .tuple #[.agg #[.slice none 0 0], .bool false]) (by simp [results, Try.results78, go_sem, d2]) rfl (NO.out HP.out _ ?_)
    exact (B.trans (hb1.mono B.size)).setCell (by simp) _
  | true =>
    have HG := Hid.mk hg
    by_cases h6 : n' ≤ 6
    · have HA' : At W a' cols := ha'.below B
      obtain ⟨i0, hi, hz0, hz1, hz2⟩ := info_parts Try.infoInt
      clear ha ha'
      go_enter Try.func78, Try.ntmps78
      go_wp2_with fail
      rw [← hW]
      refine (implGoodRow_any _ _ _ zs _ hz hn HA).mono ?_
      rintro e w1 ⟨rfl, hb1⟩
      rw [HG.out]
      have d1 := cell_later hb1 c1
      have d2 := cell_later hb1 c2
      have e2 := frozen_later hb1 c2 f2
      have A1 := HA.below hb1
      have A2 := HA'.below hb1
      have B1 := B.trans (hb1.mono B.size)
      have z1 : w.heap.size + 1 < w1.heap.size := World.block_lt_of_cell? _ _ d2
      clear hW hb1 c1 c2 f2 HA HA' B
      have V0 : RowVar (w1.alloc (.cells #[.slice none 0 0] 97)) w1.heap.size 97 (w1.heap.size + 1) 3 none 0 0 (pick zs (cols.take 0)) := RowVar.new rfl (by omega)
      go_wp2
      go_loopw [20] (fun i wr => ∃ (k : Nat) (r : Option Addr) (d : Nat), k ≤ n' ∧ i = .int .i64 k ∧ (∀ j, j < k → 0 ≤ cols.getD j 0 ∧ cols.getD j 0 < zs.length) ∧ RowVar wr w1.heap.size 97 (w1.heap.size + 1) 3 r k d (pick zs (cols.take k)) ∧ Below w1.heap.size w1 wr) (fun i _ => n' - (intOf i).toNat)
      case atStart => exact ⟨0, none, 0, Nat.zero_le _, rfl, fun j hj => by omega, V0, (Below.refl _ _).alloc (Nat.le_refl _) _⟩
      case round =>
        clear V0
        obtain ⟨k, r, d, hk, rfl, hall, hv, hbw⟩ := hrel
        have g1 := cell_later hbw d1
        have g2 := cell_later hbw d2
        have g3 := frozen_later hbw d2 e2
        have BW := B1.trans (hbw.mono B1.size)
        have z2 := hbw.size
        by_cases hlt : k < n'
        · obtain ⟨b', off', rfl, hb', hc'⟩ := (A2.below hbw).some (by omega)
          have hcx := hc' k (by omega)
          have HNo := Hid.mk (not_colsOk (cols := cols) (n := zs.length) k (by omega))
          have HS := Hid.mk (pick_succ zs cols k (by omega))
          have HAll := Hid.mk hall
          clear hc' hall
          by_cases hin : 0 ≤ cols.getD k 0 ∧ cols.getD k 0 < n
          · obtain ⟨hx0, hx1⟩ := hin
            have HX : Hid (0 ≤ cols.getD k 0 ∧ cols.getD k 0 < zs.length) := ⟨hx0, by omega⟩
            obtain ⟨j, hj⟩ := Int.eq_ofNat_of_zero_le hx0
            rw [hj] at hcx hx1 HS
            have HJ := Hid.mk hj
            have hjn : j < n := by omega
            obtain ⟨b, off, rfl, hb, hc⟩ := (A1.below hbw).some (by omega)
            have hcj := hc j (by omega)
            clear hc hj
            obtain ⟨y, hy⟩ : ∃ y, y = zs.getD ((j : Int)).toNat 0 := ⟨_, rfl⟩
            rw [← hy] at HS
            rw [show zs.getD j 0 = y by rw [hy]; rfl] at hcj
            clear hy
            have hcr := hv.cell
            have hfr := hv.frozen
            have zR : w1.heap.size < wr.heap.size := World.block_lt_of_cell? _ _ hcr
            have zb : b < wr.heap.size := World.block_lt_of_cell? _ _ hcj
            have HO := Hid.mk (hv.own.alloc (.cells #[.int .i64 y] 3)).drew
            have HN := Hid.mk (news_at wr #[.int .i64 y] 3)
            go_wp2
            go_region_law (refine step_append_lies _ rfl (.tmp 35) (.tmp 41) 22 rfl (w1.heap.size + 1) 3 i0 (.int .i64 0) 1 8 Try.underlying22 hi hz0 hz1 hz2 rfl (by decide) (.slice r k d) k _ (by simp [Act.eval]) HO.out ⟨wr.heap.size, 0, none⟩ 1 1 [.int .i64 y] (by simp [Act.eval]) rfl HN.out (by simp; rfl) (by decide) (by unfold maxLen; omega) (by omega) (by simp; omega) (wr.heap.size + 1) (by simp) ?_; intro g cap w2 hown1 hgrow' _ _; have hgrow := grown_undrew hgrow'; obtain ⟨t1, t2, hv1⟩ := hv.pushed hown1 hgrow)
            all_goals
              have HB := Hid.mk (hv.pushed_below (v := .slice (some ⟨g, 0, none⟩) (k + 1) cap) hgrow hbw (Nat.le_refl _))
              rw [← HS.out] at hv1
              have HV := Hid.mk hv1
              clear hv1 hown1 hgrow hgrow' hv hbw HO HN t1 t2 hcr hfr hcj hcx
              go_wp2
              go_roundw
              case rel =>
                refine ⟨k + 1, _, _, by omega, by go_num, fun j' hj' => ?_, HV.out, HB.out⟩
                by_cases e : j' = k
                · subst e; exact HX.out
                · exact HAll.out j' (by omega)
              case measure => simp [intOf]; omega
          · obtain ⟨x, hx⟩ : ∃ x, x = cols.getD k 0 := ⟨_, rfl⟩
            have HP : Hid (pickOk zs cols = false) := by
              have hno : colsOk cols zs.length = false := HNo.out (by omega)
              simp [Hid, pickOk, hno]
            rw [← hx] at hcx hin
            clear hx HS HNo HAll
            by_cases hneg : x < 0
            · go_wp2
              refine bodyPost_ret (v := .tuple #[.agg #[.slice none 0 0], .bool false]) (by simp [results, Try.results78, go_sem, g2]) rfl (NO.out HP.out _ ?_)
              exact BW.setCell (by simp) _
            · have hge : (n : Int) ≤ x := by omega
              go_wp2
              refine bodyPost_ret (v := .tuple #[.agg #[.slice none 0 0], .bool false]) (by simp [results, Try.results78, go_sem, g2]) rfl (NO.out HP.out _ ?_)
              exact BW.setCell (by simp) _
        · obtain rfl : k = n' := by omega
          have hok : pickOk zs cols = true := by
            have := colsOk_of (cols := cols) (n := zs.length) (by omega) (fun j hj => hall j (by omega))
            simp [pickOk, hg, this]
          have hpz : pick zs (cols.take k) = pickZ zs cols := by rw [← hz', List.take_length]; simp [pickZ, hok]
          rw [hpz] at hv
          have HP := Hid.mk hok
          have hcr := hv.cell
          clear hall hpz hok hg
          go_wp2
          refine bodyPost_ret (v := .tuple #[.agg #[.slice r k d], .bool true]) (by simp [results, Try.results78, go_sem, g2]) rfl ⟨r, k, d, by rw [HP.out], hv.1, ?_, ?_⟩
          · exact owns_mono (ownsRow_setCell_below hv.own (by simp; omega) _) (by omega)
          · exact BW.setCell (by simp) _
    · have HP : Hid (pickOk zs cols = false) := by simp [Hid, pickOk, colsOk_long (n := zs.length) (show 6 < cols.length by omega)]
      clear hg ha ha'
      go_enter Try.func78, Try.ntmps78
      go_wp2_with fail
      rw [← hW]
      refine (implGoodRow_any _ _ _ zs _ hz hn HA).mono ?_
      rintro e w1 ⟨rfl, hb1⟩
      rw [HG.out]
      have d2 := cell_later hb1 c2
      have e2 := frozen_later hb1 c2 f2
      clear hW
      go_wp2
      refine bodyPost_ret (v := .tuple #[.agg #[.slice none 0 0], .bool false]) (by simp [results, Try.results78, go_sem, d2]) rfl (NO.out HP.out _ ?_)
      exact (B.trans (hb1.mono B.size)).setCell (by simp) _

end Go.Proofs.Ytkcmlphpilggpaa
