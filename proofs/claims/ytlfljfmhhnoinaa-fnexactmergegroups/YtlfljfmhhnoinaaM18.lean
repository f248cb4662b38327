/- Contract of spec.l5Tell. -/
import Derived.Test.YtlfljfmhhnoinaaM10
import Derived.Test.YtlfljfmhhnoinaaM14
import Derived.Test.YtlfljfmhhnoinaaM17
namespace Go.Proofs.Ytlfljfmhhnoinaa
open Go.RowKit

theorem vtake_all' (ts : List GRow) {n : Nat} (h : ts.length = n) : ts.take n = ts := List.take_of_length_le (by omega)

set_option maxRecDepth 100000 in
set_option maxHeartbeats 8000000 in
theorem l5Tell_any (a : Option Addr) (n c : Nat) (ts : List GRow) (w : World) (hz : ts.length = n) (hn : n ≤ 1048576) (ha : AtN w a ts) :
    Calls Try.prog 61 #[.slice a n c] w fun e w' => GrpRet e w' w.heap.size (goodV ts) (ansG (goodV ts) ts) ∧ Below w.heap.size w w' := by
  obtain ⟨i0, hi, hz0, hz1, hz2⟩ := info_parts Try.infoV
  cases hg : goodV ts with
  | false =>
    have HG := Hid.mk hg
    clear hg
    go_enter Try.func61, Try.ntmps61
    go_wp2_with fail
    refine (specGoodGroups_any _ _ _ ts _ hz hn ha.atV).mono ?_
    rintro e w1 ⟨rfl, hb1⟩
    rw [HG.out]
    go_wp2
    refine bodyPost_ret (v := .tuple #[.slice none 0 0, .bool false]) (by simp [results, Try.results61, go_sem]) rfl ⟨GrpRet.zero rfl rfl, hb1⟩
  | true =>
    have HG := Hid.mk hg
    have HS6 : Hid (∀ k, k < n → (gat ts k).1.length ≤ 6) := fun k hk => good_len (goodG_cells (stepV_good ((goodV_parts hg).2 k (by omega)))).1
    clear hg
    go_enter Try.func61, Try.ntmps61
    go_wp2_with fail
    refine (specGoodGroups_any _ _ _ ts _ hz hn ha.atV).mono ?_
    rintro e w1 ⟨rfl, B1⟩
    rw [HG.out]
    go_wp2
    go_loopw [4, 12] (fun l i wr => ∃ (k : Nat) (r : Option Addr) (d : Nat) (cells : List Value), k ≤ n ∧ i = .int .i64 k ∧ l = .slice r k d ∧ OwnV wr w1.heap.size wr.heap.size 35 3 r k d (ts.take k) cells ∧ Below w1.heap.size w1 wr) (fun _ i _ => n - (intOf i).toNat)
    case atStart => exact ⟨0, none, 0, [], Nat.zero_le _, rfl, rfl, ⟨rfl, Nat.le_refl _, World.ownsRow_nil _ _ _ _, fun b hb => by simp [Value.ownBlock] at hb, fun i hi => by omega, fun i hi => by omega, fun i j hi => by omega⟩, Below.refl _ _⟩
    case round =>
      obtain ⟨k, r, d, cells, hk, rfl, rfl, hv, hbw⟩ := hrel
      have zR := hbw.size
      have B2 : Below w.heap.size w wr := B1.trans (hbw.mono B1.size)
      by_cases hlt : k < n
      · obtain ⟨b, off, rfl, hc⟩ := (ha.below B2).some (by omega)
        obtain ⟨q, dd, hcx, hwx, hvx, hm, hnil, hat⟩ := hc k (by omega)
        have hgk := HS6.out k hlt
        have HS := Hid.mk (vtake_succ ts k (by omega))
        have hki : (k : Int) < (n : Int) := by omega
        generalize gat ts k = Y at *
        obtain ⟨ys, x, y⟩ := Y
        simp only at hcx hwx hvx hat hm hgk
        obtain ⟨m, hmm⟩ : ∃ m, ys.length = m := ⟨_, rfl⟩
        rw [hmm] at hcx hm hgk
        have HM := Hid.mk hmm
        clear hmm hc
        obtain ⟨V, hV⟩ : ∃ V, V = wr.alloc (.cells #[.slice q m dd, .int .i64 x, .int .i64 y] 35) := ⟨_, rfl⟩
        have hbV : Below wr.heap.size wr V := by rw [hV]; exact (Below.refl _ _).alloc (Nat.le_refl _) _
        have zV : V.heap.size = wr.heap.size + 1 := by rw [hV]; simp
        have c3 : V.cell? ⟨wr.heap.size, 0, none⟩ = some (.slice q m dd) := by rw [hV]; exact trip0 wr _ _ _ _
        have c4 : V.cell? ⟨wr.heap.size, 1, none⟩ = some (.int .i64 x) := by rw [hV]; exact trip1 wr _ _ _ _
        have c5 : V.cell? ⟨wr.heap.size, 2, none⟩ = some (.int .i64 y) := by rw [hV]; exact trip2 wr _ _ _ _
        have hvV := (hv.below hbV).widen (Nat.le_refl _) hbV.size (Nat.le_refl _)
        have hatV := hat.below hbV
        have BV : Below w1.heap.size w1 V := hbw.trans (hbV.mono (by omega))
        have HTB : Hid (some wr.heap.size ≠ (Value.slice r k d).ownBlock) := fun e => by have := (hv.outer.lt _ e.symm).2; omega
        have zVR := zV
        go_wp2_with fail
        rw [← hV]
        clear hV hcx hwx hvx hat hbV hv hbw B2 zV
        refine wp_region_held_drew (S := fun w' => w'.cell? ⟨wr.heap.size, 0, none⟩ = some (.slice q m dd) ∧ w'.cell? ⟨wr.heap.size, 1, none⟩ = some (.int .i64 x) ∧ w'.cell? ⟨wr.heap.size, 2, none⟩ = some (.int .i64 y)) (by kernel_rfl) ?_ (fun hHeld => ?_)
        · (try dsimp only)
          exact ⟨c3, c4, c5⟩
        refine wpAnyH_take (i := 0) (oi := ?_) (v := ?_) ?_ (by kernel_rfl) (by kernel_rfl) (by kernel_rfl) ?_ (Or.inl ⟨?_, ?_⟩) (by assumption) ?_
        rotate_left 2
        · (simp only [List.getElem?_toArray, List.getElem?_cons_zero]; rfl)
        · exact fun _ _ _ h => h
        · rfl
        · (intro wS hSw; (try dsimp only at hSw); go_simp; (try with_reducible rfl))
        (try simp only [Act.put, List.setIfInBounds_toArray, List.set_cons_zero, List.set_cons_succ])
        refine wpAnyH_take (i := 1) (oi := ?_) (v := ?_) ?_ (by kernel_rfl) (by kernel_rfl) (by kernel_rfl) ?_ (Or.inl ⟨?_, ?_⟩) (by assumption) ?_
        rotate_left 2
        · (simp only [List.getElem?_toArray, List.getElem?_cons_zero, List.getElem?_cons_succ]; rfl)
        · exact fun _ _ _ h => h
        · rfl
        · (intro wS hSw; (try dsimp only at hSw); go_simp; (try with_reducible rfl))
        (try simp only [Act.put, List.setIfInBounds_toArray, List.set_cons_zero, List.set_cons_succ])
        refine wpAnyH_take (i := 2) (oi := ?_) (v := ?_) ?_ (by kernel_rfl) (by kernel_rfl) (by kernel_rfl) ?_ (Or.inl ⟨?_, ?_⟩) (by assumption) ?_
        rotate_left 2
        · (simp only [List.getElem?_toArray, List.getElem?_cons_zero, List.getElem?_cons_succ]; rfl)
        · exact fun _ _ _ h => h
        · rfl
        · (intro wS hSw; (try dsimp only at hSw); go_simp; (try with_reducible rfl))
        (try simp only [Act.put, List.setIfInBounds_toArray, List.set_cons_zero, List.set_cons_succ])
        refine wpAnyH_take (i := 4) (oi := ?_) (v := ?_) ?_ (by kernel_rfl) (by kernel_rfl) (by kernel_rfl) ?_ (Or.inl ⟨?_, ?_⟩) (by assumption) ?_
        rotate_left 2
        · (simp only [List.getElem?_toArray, List.getElem?_cons_zero, List.getElem?_cons_succ]; rfl)
        · exact fun _ _ _ h => h
        · rfl
        · (intro wS hSw; (try dsimp only at hSw); go_simp; (try with_reducible rfl))
        (try simp only [Act.put, List.setIfInBounds_toArray, List.set_cons_zero, List.set_cons_succ])
        refine wpAnyH_take (i := 5) (oi := ?_) (v := ?_) ?_ (by kernel_rfl) (by kernel_rfl) (by kernel_rfl) ?_ (Or.inl ⟨?_, ?_⟩) (by assumption) ?_
        rotate_left 2
        · (simp only [List.getElem?_toArray, List.getElem?_cons_zero, List.getElem?_cons_succ]; rfl)
        · exact fun _ _ _ h => h
        · rfl
        · (intro wS hSw; (try dsimp only at hSw); go_simp; (try with_reducible rfl))
        (try simp only [Act.put, List.setIfInBounds_toArray, List.set_cons_zero, List.set_cons_succ])
        refine wpAnyH_take (i := 6) (oi := ?_) (v := ?_) ?_ (by kernel_rfl) (by kernel_rfl) (by kernel_rfl) ?_ (Or.inl ⟨?_, ?_⟩) (by assumption) ?_
        rotate_left 2
        · (simp only [List.getElem?_toArray, List.getElem?_cons_zero, List.getElem?_cons_succ]; rfl)
        · exact fun _ _ _ h => h
        · rfl
        · (intro wS hSw; (try dsimp only at hSw); go_simp; (try with_reducible rfl))
        (try simp only [Act.put, List.setIfInBounds_toArray, List.set_cons_zero, List.set_cons_succ])
        refine wpAnyH_take (i := 7) (oi := ?_) (v := ?_) ?_ (by kernel_rfl) (by kernel_rfl) (by kernel_rfl) ?_ (Or.inl ⟨?_, ?_⟩) (by assumption) ?_
        rotate_left 2
        · (simp only [List.getElem?_toArray, List.getElem?_cons_zero, List.getElem?_cons_succ]; rfl)
        · exact fun _ _ _ h => h
        · rfl
        · (intro wS hSw; (try dsimp only at hSw); go_simp; (try with_reducible rfl))
        (try simp only [Act.put, List.setIfInBounds_toArray, List.set_cons_zero, List.set_cons_succ])
        refine wpAnyH_ready (rs := [3]) (by kernel_rfl) (by simp) ?_
        refine AllReadyH.cons (o := ?_) ?_ (fun K hK => ?_) AllReadyH.nil
        rotate_left
        · (simp only [List.getElem?_toArray, List.getElem?_cons_zero, List.getElem?_cons_succ]; rfl)
        go_simp
        go_at_call 49; refine (l2OwnRow_any _ _ _ ys _ HM.out (by omega) hnil hatV.drew).mono ?_; rintro e w2 ⟨r2, d2, rfl, ho2, hb2⟩; have e3 := cell_later (w := V.drew) hb2 c3; have e4 := cell_later (w := V.drew) hb2 c4; have e5 := cell_later (w := V.drew) hb2 c5; have hv2 := hvV.drew.below hb2; have z2 : V.heap.size ≤ w2.heap.size := hb2.size; have hTb : some wr.heap.size ≠ (Value.slice r k d).ownBlock := HTB.out
        (try go_wp2_with fail)
        refine hK.out _ _ ?_ (fun hHeld' => ?_)
        · (try dsimp only)
          exact ⟨e3, e4, e5⟩
        clear hK K hHeld
        have hHeld := hHeld'
        clear hHeld'
        (try simp only [Act.put, List.setIfInBounds_toArray, List.set_cons_zero, List.set_cons_succ])
        refine wpAnyH_take (i := 8) (oi := ?_) (v := ?_) ?_ (by kernel_rfl) (by kernel_rfl) (by kernel_rfl) ?_ (Or.inl ⟨?_, ?_⟩) (by assumption) ?_
        rotate_left 2
        · (simp only [List.getElem?_toArray, List.getElem?_cons_zero, List.getElem?_cons_succ]; rfl)
        · exact fun _ _ _ h => h
        · rfl
        · (intro wS hSw; (try dsimp only at hSw); go_simp; (try with_reducible rfl))
        (try simp only [Act.put, List.setIfInBounds_toArray, List.set_cons_zero, List.set_cons_succ])
        refine wpAnyH_ready (rs := [9]) (by kernel_rfl) (by simp) ?_
        refine AllReadyH.cons (o := ?_) ?_ (fun K hK => ?_) AllReadyH.nil
        rotate_left
        · (simp only [List.getElem?_toArray, List.getElem?_cons_zero, List.getElem?_cons_succ]; rfl)
        go_simp
        skip
        (try go_wp2_with fail)
        refine hK.out _ _ ?_ (fun hHeld' => ?_)
        · (try dsimp only)
          exact ⟨cell_later ((Below.refl _ _).alloc (Nat.le_refl _) _) e3, cell_later ((Below.refl _ _).alloc (Nat.le_refl _) _) e4, cell_later ((Below.refl _ _).alloc (Nat.le_refl _) _) e5⟩
        clear hK K hHeld
        have hHeld := hHeld'
        clear hHeld'
        (try simp only [Act.put, List.setIfInBounds_toArray, List.set_cons_zero, List.set_cons_succ])
        refine wpAnyH_ready (rs := [10]) (by kernel_rfl) (by simp) ?_
        refine AllReadyH.cons (o := ?_) ?_ (fun K hK => ?_) AllReadyH.nil
        rotate_left
        · (simp only [List.getElem?_toArray, List.getElem?_cons_zero, List.getElem?_cons_succ]; rfl)
        refine step_append_lies _ rfl (.tmp 16) (.tmp 25) 25 rfl w1.heap.size 35 i0 (.agg #[.slice none 0 0, .int .i64 0, .int .i64 0]) 3 40 Try.underlying25 hi hz0 hz1 hz2 rfl (by decide) (.slice r k d) k cells (by simp [Act.eval]) (hv2.outer.alloc _) ⟨w2.heap.size, 0, none⟩ 1 1 [.slice r2 m d2, .int .i64 x, .int .i64 y] (by simp [Act.eval]) rfl (by simpa using news_at w2 #[.slice r2 m d2, .int .i64 x, .int .i64 y] 35) (by intro u hu; simp at hu; rcases hu with rfl | rfl | rfl <;> rfl) (by decide) (by unfold maxLen; omega) (by omega) (by simp; omega) (w2.heap.size + 1) (by simp) ?_; intro g4 cap4 w4 hown4 hgrow4 hat4 hlt4; have s3 := hgrow4.cell (cell_later ((Below.refl _ _).alloc (Nat.le_refl _) _) e3) hTb; have s4 := hgrow4.cell (cell_later ((Below.refl _ _).alloc (Nat.le_refl _) _) e4) hTb; have s5 := hgrow4.cell (cell_later ((Below.refl _ _).alloc (Nat.le_refl _) _) e5) hTb; have hv4 := OwnVk.pushed hvV.drew (by rw [drew_size]; omega) hb2 HM.out ho2 hown4 hgrow4 hat4 hlt4
        refine hK.out _ _ ?_ (fun hHeld' => ?_)
        · (try dsimp only)
          exact ⟨s3, s4, s5⟩
        clear hK K hHeld
        have hHeld := hHeld'
        clear hHeld'
        (try simp only [Act.put, List.setIfInBounds_toArray, List.set_cons_zero, List.set_cons_succ])
        refine wpAnyH_take (i := 11) (oi := ?_) (v := ?_) ?_ (by kernel_rfl) (by kernel_rfl) (by kernel_rfl) ?_ (Or.inl ⟨?_, ?_⟩) (by assumption) ?_
        rotate_left 2
        · (simp only [List.getElem?_toArray, List.getElem?_cons_zero, List.getElem?_cons_succ]; rfl)
        · exact fun _ _ _ h => h
        · rfl
        · (intro wS hSw; (try dsimp only at hSw); go_simp; (try with_reducible rfl))
        (try simp only [Act.put, List.setIfInBounds_toArray, List.set_cons_zero, List.set_cons_succ])
        refine wpAnyH_done (by kernel_rfl) ?_ _
        have hrb : ∀ j, (Value.slice r k d).ownBlock = some j → w1.heap.size ≤ j := fun j hj => (hv2.outer.lt j hj).1
        have B4 : Below w1.heap.size w1 w2 := BV.drew.trans (hb2.mono BV.size)
        have HB := Hid.mk ((B4.alloc B4.size _).grown hgrow4 (by have := B4.size; simp; omega) (fun j hj => hrb j hj))
        rw [← HS.out] at hv4
        have HV := Hid.mk hv4
        clear hv4 hown4 hgrow4 hvV BV B4 s3 s4 s5 e3 e4 e5 hv2 ho2 hb2 c3 c4 c5 hHeld hrb
        go_wp2
        go_roundw
        case rel => exact ⟨k + 1, _, _, _, by omega, by go_num, rfl, HV.out, HB.out⟩
        case measure => simp [intOf]; omega
      · obtain rfl : k = n := by omega
        rw [vtake_all' ts hz] at hv
        have HV := Hid.mk hv
        have z1 := B1.size
        clear hv
        go_wp2
        refine bodyPost_ret (v := .tuple #[.slice r k d, .bool true]) (by simp [results, Try.results61, go_sem]) rfl ⟨⟨r, k, d, rfl, ⟨cells, HV.out.widen z1 (Nat.le_refl _) (Nat.le_refl _)⟩⟩, B2⟩

end Go.Proofs.Ytlfljfmhhnoinaa
