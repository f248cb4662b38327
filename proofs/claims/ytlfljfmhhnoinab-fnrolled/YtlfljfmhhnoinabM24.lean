/- Several texts of one proof, in build order: L5Tell, PickS. -/
import Derived.Test.YtlfljfmhhnoinabM22
import Derived.Test.YtlfljfmhhnoinabM19
import Derived.Test.YtlfljfmhhnoinabM23
import Derived.Test.YtlfljfmhhnoinabM20

/- Contract of spec.l5Tell. -/
namespace Go.Proofs.Ytlfljfmhhnoinab
open Go.RowKit

theorem vtake_all' (ts : List GRow) {n : Nat} (h : ts.length = n) : ts.take n = ts := List.take_of_length_le (by omega)

set_option maxRecDepth 100000 in
set_option maxHeartbeats 8000000 in
theorem l5Tell_any (a : Option Addr) (n c : Nat) (ts : List GRow) (w : World) (hz : ts.length = n) (hn : n ≤ 1048576) (ha : AtN w a ts) :
    Calls Try.prog 42 #[.slice a n c] w fun e w' => GrpRet e w' w.heap.size (goodV ts) (ansG (goodV ts) ts) ∧ Below w.heap.size w w' := by
  obtain ⟨i0, hi, hz0, hz1, hz2⟩ := info_parts Try.infoV
  cases hg : goodV ts with
  | false =>
    have HG := Hid.mk hg
    clear hg
    go_enter Try.func42, Try.ntmps42
    go_wp2_with fail
    refine (specGoodGroups_any _ _ _ ts _ hz hn ha.atV).mono ?_
    rintro e w1 ⟨rfl, hb1⟩
    rw [HG.out]
    go_wp2
    refine bodyPost_ret (v := .tuple #[.slice none 0 0, .bool false]) (by simp [results, Try.results42, go_sem]) rfl ⟨GrpRet.zero rfl rfl, hb1⟩
  | true =>
    have HG := Hid.mk hg
    have HS6 : Hid (∀ k, k < n → (gat ts k).1.length ≤ 6) := fun k hk => good_len (goodG_cells (stepV_good ((goodV_parts hg).2 k (by omega)))).1
    clear hg
    go_enter Try.func42, Try.ntmps42
    go_wp2_with fail
    refine (specGoodGroups_any _ _ _ ts _ hz hn ha.atV).mono ?_
    rintro e w1 ⟨rfl, B1⟩
    rw [HG.out]
    go_wp2
    go_loopw [4, 12] (fun l i wr => ∃ (k : Nat) (r : Option Addr) (d : Nat) (cells : List Value), k ≤ n ∧ i = .int .i64 k ∧ l = .slice r k d ∧ OwnV wr w1.heap.size wr.heap.size 73 3 r k d (ts.take k) cells ∧ Below w1.heap.size w1 wr) (fun _ i _ => n - (intOf i).toNat)
    case atStart => exact ⟨0, none, 0, [], Nat.zero_le _, rfl, rfl, ⟨rfl, Nat.le_refl _, World.ownsRow_nil _ _ _ _, fun b hb => by simp [Value.ownBlock] at hb, fun i hi => by omega, fun i hi => by omega, fun i j hi => by omega⟩, Below.refl _ _⟩
    case round =>
      obtain ⟨k, r, d, cells, hk, rfl, rfl, hv, hbw⟩ := hrel
      have zR := hbw.size
      have B2 : Below w.heap.size w wr := B1.trans (hbw.mono B1.size)
      by_cases hlt : k < n
      · obtain ⟨b, off, rfl, hc⟩ := (ha.below B2).some (by omega)
        obtain ⟨q, dd, hcx, hwx, hvx, hm, hnil, hat⟩ := hc k (by omega)
        have hgk := HS6.out k hlt
        have HS := Hid.mk (vtake_succ ts k (by omega))
        have hki : (k : Int) < (n : Int) := by omega
        generalize gat ts k = Y at *
        obtain ⟨ys, x, y⟩ := Y
        simp only at hcx hwx hvx hat hm hgk
        obtain ⟨m, hmm⟩ : ∃ m, ys.length = m := ⟨_, rfl⟩
        rw [hmm] at hcx hm hgk
        have HM := Hid.mk hmm
        clear hmm hc
        obtain ⟨V, hV⟩ : ∃ V, V = wr.alloc (.cells #[.slice q m dd, .int .i64 x, .int .i64 y] 73) := ⟨_, rfl⟩
        have hbV : Below wr.heap.size wr V := by rw [hV]; exact (Below.refl _ _).alloc (Nat.le_refl _) _
        have zV : V.heap.size = wr.heap.size + 1 := by rw [hV]; simp
        have c3 : V.cell? ⟨wr.heap.size, 0, none⟩ = some (.slice q m dd) := by rw [hV]; exact trip0 wr _ _ _ _
        have c4 : V.cell? ⟨wr.heap.size, 1, none⟩ = some (.int .i64 x) := by rw [hV]; exact trip1 wr _ _ _ _
        have c5 : V.cell? ⟨wr.heap.size, 2, none⟩ = some (.int .i64 y) := by rw [hV]; exact trip2 wr _ _ _ _
        have hvV := (hv.below hbV).widen (Nat.le_refl _) hbV.size (Nat.le_refl _)
        have hatV := hat.below hbV
        have BV : Below w1.heap.size w1 V := hbw.trans (hbV.mono (by omega))
        have HTB : Hid (some wr.heap.size ≠ (Value.slice r k d).ownBlock) := fun e => by have := (hv.outer.lt _ e.symm).2; omega
        have zVR := zV
        go_wp2_with fail
        rw [← hV]
        clear hV hcx hwx hvx hat hbV hv hbw B2 zV
        refine wp_region_held_drew (S := fun w' => w'.cell? ⟨wr.heap.size, 0, none⟩ = some (.slice q m dd) ∧ w'.cell? ⟨wr.heap.size, 1, none⟩ = some (.int .i64 x) ∧ w'.cell? ⟨wr.heap.size, 2, none⟩ = some (.int .i64 y)) (by kernel_rfl) ?_ (fun hHeld => ?_)
        · (try dsimp only)
          exact ⟨c3, c4, c5⟩
        refine wpAnyH_take (i := 0) (oi := ?_) (v := ?_) ?_ (by kernel_rfl) (by kernel_rfl) (by kernel_rfl) ?_ (Or.inl ⟨?_, ?_⟩) (by assumption) ?_
        rotate_left 2
        · (simp only [List.getElem?_toArray, List.getElem?_cons_zero]; rfl)
        · exact fun _ _ _ h => h
        · rfl
        · (intro wS hSw; (try dsimp only at hSw); go_simp; (try with_reducible rfl))
        (try simp only [Act.put, List.setIfInBounds_toArray, List.set_cons_zero, List.set_cons_succ])
        refine wpAnyH_take (i := 1) (oi := ?_) (v := ?_) ?_ (by kernel_rfl) (by kernel_rfl) (by kernel_rfl) ?_ (Or.inl ⟨?_, ?_⟩) (by assumption) ?_
        rotate_left 2
        · (simp only [List.getElem?_toArray, List.getElem?_cons_zero, List.getElem?_cons_succ]; rfl)
        · exact fun _ _ _ h => h
        · rfl
        · (intro wS hSw; (try dsimp only at hSw); go_simp; (try with_reducible rfl))
        (try simp only [Act.put, List.setIfInBounds_toArray, List.set_cons_zero, List.set_cons_succ])
        refine wpAnyH_take (i := 2) (oi := ?_) (v := ?_) ?_ (by kernel_rfl) (by kernel_rfl) (by kernel_rfl) ?_ (Or.inl ⟨?_, ?_⟩) (by assumption) ?_
        rotate_left 2
        · (simp only [List.getElem?_toArray, List.getElem?_cons_zero, List.getElem?_cons_succ]; rfl)
        · exact fun _ _ _ h => h
        · rfl
        · (intro wS hSw; (try dsimp only at hSw); go_simp; (try with_reducible rfl))
        (try simp only [Act.put, List.setIfInBounds_toArray, List.set_cons_zero, List.set_cons_succ])
        refine wpAnyH_take (i := 4) (oi := ?_) (v := ?_) ?_ (by kernel_rfl) (by kernel_rfl) (by kernel_rfl) ?_ (Or.inl ⟨?_, ?_⟩) (by assumption) ?_
        rotate_left 2
        · (simp only [List.getElem?_toArray, List.getElem?_cons_zero, List.getElem?_cons_succ]; rfl)
        · exact fun _ _ _ h => h
        · rfl
        · (intro wS hSw; (try dsimp only at hSw); go_simp; (try with_reducible rfl))
        (try simp only [Act.put, List.setIfInBounds_toArray, List.set_cons_zero, List.set_cons_succ])
        refine wpAnyH_take (i := 5) (oi := ?_) (v := ?_) ?_ (by kernel_rfl) (by kernel_rfl) (by kernel_rfl) ?_ (Or.inl ⟨?_, ?_⟩) (by assumption) ?_
        rotate_left 2
        · (simp only [List.getElem?_toArray, List.getElem?_cons_zero, List.getElem?_cons_succ]; rfl)
        · exact fun _ _ _ h => h
        · rfl
        · (intro wS hSw; (try dsimp only at hSw); go_simp; (try with_reducible rfl))
        (try simp only [Act.put, List.setIfInBounds_toArray, List.set_cons_zero, List.set_cons_succ])
        refine wpAnyH_take (i := 6) (oi := ?_) (v := ?_) ?_ (by kernel_rfl) (by kernel_rfl) (by kernel_rfl) ?_ (Or.inl ⟨?_, ?_⟩) (by assumption) ?_
        rotate_left 2
        · (simp only [List.getElem?_toArray, List.getElem?_cons_zero, List.getElem?_cons_succ]; rfl)
        · exact fun _ _ _ h => h
        · rfl
        · (intro wS hSw; (try dsimp only at hSw); go_simp; (try with_reducible rfl))
        (try simp only [Act.put, List.setIfInBounds_toArray, List.set_cons_zero, List.set_cons_succ])
        refine wpAnyH_take (i := 7) (oi := ?_) (v := ?_) ?_ (by kernel_rfl) (by kernel_rfl) (by kernel_rfl) ?_ (Or.inl ⟨?_, ?_⟩) (by assumption) ?_
        rotate_left 2
        · (simp only [List.getElem?_toArray, List.getElem?_cons_zero, List.getElem?_cons_succ]; rfl)
        · exact fun _ _ _ h => h
        · rfl
        · (intro wS hSw; (try dsimp only at hSw); go_simp; (try with_reducible rfl))
        (try simp only [Act.put, List.setIfInBounds_toArray, List.set_cons_zero, List.set_cons_succ])
        refine wpAnyH_ready (rs := [3]) (by kernel_rfl) (by simp) ?_
        refine AllReadyH.cons (o := ?_) ?_ (fun K hK => ?_) AllReadyH.nil
        rotate_left
        · (simp only [List.getElem?_toArray, List.getElem?_cons_zero, List.getElem?_cons_succ]; rfl)
        go_simp
        go_at_call 92; refine (l2OwnRow_any _ _ _ ys _ HM.out (by omega) hnil hatV.drew).mono ?_; rintro e w2 ⟨r2, d2, rfl, ho2, hb2⟩; have e3 := cell_later (w := V.drew) hb2 c3; have e4 := cell_later (w := V.drew) hb2 c4; have e5 := cell_later (w := V.drew) hb2 c5; have hv2 := hvV.drew.below hb2; have z2 : V.heap.size ≤ w2.heap.size := hb2.size; have hTb : some wr.heap.size ≠ (Value.slice r k d).ownBlock := HTB.out
        (try go_wp2_with fail)
        refine hK.out _ _ ?_ (fun hHeld' => ?_)
        · (try dsimp only)
          exact ⟨e3, e4, e5⟩
        clear hK K hHeld
        have hHeld := hHeld'
        clear hHeld'
        (try simp only [Act.put, List.setIfInBounds_toArray, List.set_cons_zero, List.set_cons_succ])
        refine wpAnyH_take (i := 8) (oi := ?_) (v := ?_) ?_ (by kernel_rfl) (by kernel_rfl) (by kernel_rfl) ?_ (Or.inl ⟨?_, ?_⟩) (by assumption) ?_
        rotate_left 2
        · (simp only [List.getElem?_toArray, List.getElem?_cons_zero, List.getElem?_cons_succ]; rfl)
        · exact fun _ _ _ h => h
        · rfl
        · (intro wS hSw; (try dsimp only at hSw); go_simp; (try with_reducible rfl))
        (try simp only [Act.put, List.setIfInBounds_toArray, List.set_cons_zero, List.set_cons_succ])
        refine wpAnyH_ready (rs := [9]) (by kernel_rfl) (by simp) ?_
        refine AllReadyH.cons (o := ?_) ?_ (fun K hK => ?_) AllReadyH.nil
        rotate_left
        · (simp only [List.getElem?_toArray, List.getElem?_cons_zero, List.getElem?_cons_succ]; rfl)
        go_simp
        skip
        (try go_wp2_with fail)
        refine hK.out _ _ ?_ (fun hHeld' => ?_)
        · (try dsimp only)
          exact ⟨cell_later ((Below.refl _ _).alloc (Nat.le_refl _) _) e3, cell_later ((Below.refl _ _).alloc (Nat.le_refl _) _) e4, cell_later ((Below.refl _ _).alloc (Nat.le_refl _) _) e5⟩
        clear hK K hHeld
        have hHeld := hHeld'
        clear hHeld'
        (try simp only [Act.put, List.setIfInBounds_toArray, List.set_cons_zero, List.set_cons_succ])
        refine wpAnyH_ready (rs := [10]) (by kernel_rfl) (by simp) ?_
        refine AllReadyH.cons (o := ?_) ?_ (fun K hK => ?_) AllReadyH.nil
        rotate_left
        · (simp only [List.getElem?_toArray, List.getElem?_cons_zero, List.getElem?_cons_succ]; rfl)
        refine step_append_lies _ rfl (.tmp 16) (.tmp 25) 27 rfl w1.heap.size 73 i0 (.agg #[.slice none 0 0, .int .i64 0, .int .i64 0]) 3 40 Try.underlying27 hi hz0 hz1 hz2 rfl (by decide) (.slice r k d) k cells (by simp [Act.eval]) (hv2.outer.alloc _) ⟨w2.heap.size, 0, none⟩ 1 1 [.slice r2 m d2, .int .i64 x, .int .i64 y] (by simp [Act.eval]) rfl (by simpa using news_at w2 #[.slice r2 m d2, .int .i64 x, .int .i64 y] 73) (by intro u hu; simp at hu; rcases hu with rfl | rfl | rfl <;> rfl) (by decide) (by unfold maxLen; omega) (by omega) (by simp; omega) (w2.heap.size + 1) (by simp) ?_; intro g4 cap4 w4 hown4 hgrow4 hat4 hlt4; have s3 := hgrow4.cell (cell_later ((Below.refl _ _).alloc (Nat.le_refl _) _) e3) hTb; have s4 := hgrow4.cell (cell_later ((Below.refl _ _).alloc (Nat.le_refl _) _) e4) hTb; have s5 := hgrow4.cell (cell_later ((Below.refl _ _).alloc (Nat.le_refl _) _) e5) hTb; have hv4 := OwnVk.pushed hvV.drew (by rw [drew_size]; omega) hb2 HM.out ho2 hown4 hgrow4 hat4 hlt4
        refine hK.out _ _ ?_ (fun hHeld' => ?_)
        · (try dsimp only)
          exact ⟨s3, s4, s5⟩
        clear hK K hHeld
        have hHeld := hHeld'
        clear hHeld'
        (try simp only [Act.put, List.setIfInBounds_toArray, List.set_cons_zero, List.set_cons_succ])
        refine wpAnyH_take (i := 11) (oi := ?_) (v := ?_) ?_ (by kernel_rfl) (by kernel_rfl) (by kernel_rfl) ?_ (Or.inl ⟨?_, ?_⟩) (by assumption) ?_
        rotate_left 2
        · (simp only [List.getElem?_toArray, List.getElem?_cons_zero, List.getElem?_cons_succ]; rfl)
        · exact fun _ _ _ h => h
        · rfl
        · (intro wS hSw; (try dsimp only at hSw); go_simp; (try with_reducible rfl))
        (try simp only [Act.put, List.setIfInBounds_toArray, List.set_cons_zero, List.set_cons_succ])
        refine wpAnyH_done (by kernel_rfl) ?_ _
        have hrb : ∀ j, (Value.slice r k d).ownBlock = some j → w1.heap.size ≤ j := fun j hj => (hv2.outer.lt j hj).1
        have B4 : Below w1.heap.size w1 w2 := BV.drew.trans (hb2.mono BV.size)
        have HB := Hid.mk ((B4.alloc B4.size _).grown hgrow4 (by have := B4.size; simp; omega) (fun j hj => hrb j hj))
        rw [← HS.out] at hv4
        have HV := Hid.mk hv4
        clear hv4 hown4 hgrow4 hvV BV B4 s3 s4 s5 e3 e4 e5 hv2 ho2 hb2 c3 c4 c5 hHeld hrb
        go_wp2
        go_roundw
        case rel => exact ⟨k + 1, _, _, _, by omega, by go_num, rfl, HV.out, HB.out⟩
        case measure => simp [intOf]; omega
      · obtain rfl : k = n := by omega
        rw [vtake_all' ts hz] at hv
        have HV := Hid.mk hv
        have z1 := B1.size
        clear hv
        go_wp2
        refine bodyPost_ret (v := .tuple #[.slice r k d, .bool true]) (by simp [results, Try.results42, go_sem]) rfl ⟨⟨r, k, d, rfl, ⟨cells, HV.out.widen z1 (Nat.le_refl _) (Nat.le_refl _)⟩⟩, B2⟩

end Go.Proofs.Ytlfljfmhhnoinab

/- Contracts of spec.l1Columns, spec.l1Pick, spec.PickCells. -/
namespace Go.Proofs.Ytlfljfmhhnoinab
open Go.RowKit

set_option maxHeartbeats 1000000 in
theorem l1Columns_any (a : Option Addr) (n' c : Nat) (cols : List Int) (n : Nat) (w : World) (hz : cols.length = n') (hn' : n' ≤ 9223372036854775807) (_hn : n ≤ 9223372036854775807) (ha : At w a cols) :
    Calls Try.prog 39 #[.slice a n' c, .int .i64 n] w fun e w' => e = .returned (.bool (colsOk cols n)) ∧ w' = w := by
  by_cases h0 : n' = 0
  · subst h0
    obtain rfl := List.eq_nil_of_length_eq_zero hz
    go_enter Try.func39, Try.ntmps39
    go_wp2
    refine wp_loop_rounds 1 ?_
    rw [rounds_succ]
    go_wp2
    go_ret
    exact ⟨ret_bool (by simp [colsOk]), rfl⟩
  · obtain ⟨b, off, rfl, hb, hc⟩ := ha.some (by omega)
    clear ha
    go_enter Try.func39, Try.ntmps39
    go_wp2
    go_loop [9] (fun i => ∃ k : Nat, k ≤ n' ∧ i = .int .i64 k ∧ ∀ j, j < k → 0 ≤ cols.getD j 0 ∧ cols.getD j 0 < n) (fun i => n' - (intOf i).toNat)
    case atStart => exact ⟨0, Nat.zero_le _, rfl, fun j hj => by omega⟩
    case round =>
      obtain ⟨k, hk, rfl, hall⟩ := hrel
      by_cases hlt : k < n'
      · have hcx := hc k (by omega)
        have HN := Hid.mk (not_colsOk (cols := cols) (n := n) k (by omega))
        have HS : Hid (0 ≤ cols.getD k 0 → cols.getD k 0 < n → ∀ j, j < k + 1 → 0 ≤ cols.getD j 0 ∧ cols.getD j 0 < n) := fun h1 h2 j hj => by
          by_cases e : j = k
          · subst e; exact ⟨h1, h2⟩
          · exact hall j (by omega)
        clear hall hc
        obtain ⟨x, hx⟩ : ∃ x, x = cols.getD k 0 := ⟨_, rfl⟩
        rw [← hx] at hcx HN HS
        clear hx
        by_cases hlo : x < 0
        · go_wp2
          go_ret
          exact ⟨ret_bool (HN.out (.inl hlo)).symm, rfl⟩
        · by_cases hhi : (n : Int) ≤ x
          · go_wp2
            go_ret
            exact ⟨ret_bool (HN.out (.inr hhi)).symm, rfl⟩
          · go_wp2
            go_round
            case rel => exact ⟨k + 1, by omega, by go_num, HS.out (by omega) (by omega)⟩
            case measure => simp [intOf]; omega
      · by_cases h6 : n' ≤ 6
        · have HG := Hid.mk (colsOk_of (cols := cols) (n := n) (by omega) (fun j hj => hall j (by omega)))
          clear hall hc
          go_wp2
          go_ret
          exact ⟨ret_bool (by rw [HG.out]; simp; omega), rfl⟩
        · have HG := Hid.mk (colsOk_long (cols := cols) (n := n) (by omega))
          clear hall hc
          go_wp2
          go_ret
          exact ⟨ret_bool (by rw [HG.out]; simp; omega), rfl⟩

set_option maxHeartbeats 4000000 in
theorem l1Pick_any (a a' : Option Addr) (n n' c c' : Nat) (zs cols : List Int) (w : World) (hz : zs.length = n) (hz' : cols.length = n') (hn : n ≤ 9223372036854775807) (ha : At w a zs) (ha' : At w a' cols) (hok : colsOk cols zs.length = true) :
    Calls Try.prog 41 #[.agg #[.slice a n c], .slice a' n' c'] w fun e w' => ∃ r d, e = .returned (.agg #[.slice r n' d]) ∧
      w'.ownsRow w.heap.size 3 1 (.slice r n' d) n' ((pick zs cols).map (.int .i64)) ∧ Below w.heap.size w w' := by
  have h6 := colsOk_len hok
  have hall := fun j hj => colsOk_at hok j hj
  obtain ⟨i0, hi, hz0, hz1, hz2⟩ := info_parts Try.infoInt
  obtain ⟨w1, hW⟩ : ∃ w1, w1 = (w.alloc (.cells #[.slice a n c] 67)).alloc (.cells #[.slice none 0 0] 67) := ⟨_, rfl⟩
  have B1 : Below w.heap.size w w1 := by rw [hW]; exact ((Below.refl _ _).alloc (Nat.le_refl _) _).alloc (by simp) _
  have A1 : At w1 a zs := ha.below B1
  have A2 : At w1 a' cols := ha'.below B1
  have d1 : w1.cell? ⟨w.heap.size, 0, none⟩ = some (.slice a n c) := by rw [hW]; simp
  have d2 : w1.cell? ⟨w.heap.size + 1, 0, none⟩ = some (.slice none 0 0) := by rw [hW]; simp
  have e2 : w1.frozen? ⟨w.heap.size + 1, 0, none⟩ = false := by rw [hW]; simp
  have z1 : w1.heap.size = w.heap.size + 1 + 1 := by rw [hW]; simp
  have V0 : RowVar (w1.alloc (.cells #[.slice none 0 0] 67)) (w.heap.size + 1 + 1) 67 (w.heap.size + 1 + 1 + 1) 3 none 0 0 (pick zs (cols.take 0)) := RowVar.new z1.symm (by omega)
  have z1a : w1.heap.size ≤ w.heap.size + 1 + 1 := by omega
  have z1b : w.heap.size + 1 + 1 ≤ w1.heap.size := by omega
  clear ha ha' hok z1
  go_enter Try.func41, Try.ntmps41
  go_wp2
  rw [← hW]
  clear hW
  go_loopw [11] (fun i wr => ∃ (k : Nat) (r : Option Addr) (d : Nat), k ≤ n' ∧ i = .int .i64 k ∧ RowVar wr (w.heap.size + 1 + 1) 67 (w.heap.size + 1 + 1 + 1) 3 r k d (pick zs (cols.take k)) ∧ Below w1.heap.size w1 wr) (fun i _ => n' - (intOf i).toNat)
  case atStart => exact ⟨0, none, 0, Nat.zero_le _, rfl, V0, (Below.refl _ _).alloc (Nat.le_refl _) _⟩
  case round =>
    clear V0
    obtain ⟨k, r, d, hk, rfl, hv, hbw⟩ := hrel
    have g1 := cell_later hbw d1
    have g2 := cell_later hbw d2
    have g3 := frozen_later hbw d2 e2
    have BW := B1.trans (hbw.mono B1.size)
    have z2 := hbw.size
    by_cases hlt : k < n'
    · obtain ⟨b', off', rfl, hb', hc'⟩ := (A2.below hbw).some (by omega)
      have hcx := hc' k (by omega)
      have HS := Hid.mk (pick_succ zs cols k (by omega))
      obtain ⟨hx0, hx1⟩ := hall k (by omega)
      clear hc' hall
      obtain ⟨j, hj⟩ := Int.eq_ofNat_of_zero_le hx0
      rw [hj] at hcx hx1 HS
      have hjn : j < n := by omega
      obtain ⟨b, off, rfl, hb, hc⟩ := (A1.below hbw).some (by omega)
      have hcj := hc j (by omega)
      clear hc hj
      obtain ⟨y, hy⟩ : ∃ y, y = zs.getD ((j : Int)).toNat 0 := ⟨_, rfl⟩
      rw [← hy] at HS
      rw [show zs.getD j 0 = y by rw [hy]; rfl] at hcj
      clear hy
      have hcr := hv.cell
      have hfr := hv.frozen
      have zR : w.heap.size + 1 + 1 < wr.heap.size := World.block_lt_of_cell? _ _ hcr
      have zb : b < wr.heap.size := World.block_lt_of_cell? _ _ hcj
      have HO := Hid.mk (hv.own.alloc (.cells #[.int .i64 y] 3)).drew
      have HN := Hid.mk (news_at wr #[.int .i64 y] 3)
      go_wp2
      go_region_law (refine step_append_lies _ rfl (.tmp 16) (.tmp 22) 25 rfl (w.heap.size + 1 + 1 + 1) 3 i0 (.int .i64 0) 1 8 Try.underlying25 hi hz0 hz1 hz2 rfl (by decide) (.slice r k d) k _ (by simp [Act.eval]) HO.out ⟨wr.heap.size, 0, none⟩ 1 1 [.int .i64 y] (by simp [Act.eval]) rfl HN.out (by simp; rfl) (by decide) (by unfold maxLen; omega) (by omega) (by simp; omega) (wr.heap.size + 1) (by simp) ?_; intro g cap w2 hown1 hgrow' _ _; have hgrow := grown_undrew hgrow'; obtain ⟨t1, t2, hv1⟩ := hv.pushed hown1 hgrow)
      all_goals
        have HB := Hid.mk (hv.pushed_below (v := .slice (some ⟨g, 0, none⟩) (k + 1) cap) hgrow hbw z1a)
        rw [← HS.out] at hv1
        have HV := Hid.mk hv1
        clear hv1 hown1 hgrow hgrow' hv hbw HO HN t1 t2 hcr hfr hcj hcx
        go_wp2
        go_roundw
        case rel => exact ⟨k + 1, _, _, by omega, by go_num, HV.out, HB.out⟩
        case measure => simp [intOf]; omega
    · obtain rfl : k = n' := by omega
      rw [← hz', List.take_length, hz'] at hv
      have hcr := hv.cell
      clear hall
      go_wp2
      refine bodyPost_ret (v := .agg #[.slice r k d]) (by simp [results, Try.results41, go_sem, g2]) rfl ⟨r, d, rfl, ?_, ?_⟩
      · exact owns_mono (ownsRow_setCell_below hv.own (by simp) _) (by omega)
      · exact BW.setCell (by simp) _

end Go.Proofs.Ytlfljfmhhnoinab
