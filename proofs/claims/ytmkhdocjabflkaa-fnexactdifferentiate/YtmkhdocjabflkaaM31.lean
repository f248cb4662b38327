/- Contract of spec.Differentiate. -/
import Derived.Test.YtmkhdocjabflkaaM30
import Derived.Test.YtmkhdocjabflkaaM27
namespace Go.Proofs.Ytmkhdocjabflkaa
open Go.RowKit

set_option maxRecDepth 100000 in
set_option maxHeartbeats 4000000 in
theorem specDifferentiate (a : Option Addr) (n c : Nat) (ss : List Tab) (p : Int) (w : World) (hs : SmU ss n) (ha : AtSM w a ss) :
    Calls Try.prog 28 #[.agg #[.int .i64 p, .slice a n c]] w fun e w' => StrAns e w' w.heap.size (strB p ss (upto (diffK (fun k => (tat ss k).2)) n)) p (tabsOf p.toNat (upto (diffK (fun k => (tat ss k).2)) n) n) ∧ Below w.heap.size w w' := by
  obtain ⟨i0, hi, hz0, hz1, hz2⟩ := info_parts Try.infoL
  have hz := hs.1
  obtain ⟨W, hW⟩ : ∃ W, W = (w.alloc (.cells #[.int .i64 p, .slice a n c] 45)).alloc (.cells #[.int .i64 0, .slice none 0 0] 45) := ⟨_, rfl⟩
  have zW : W.heap.size = w.heap.size + 1 + 1 := by rw [hW]; simp
  have B0 : Below w.heap.size w W := by rw [hW]; exact ((Below.refl _ _).alloc (Nat.le_refl _) _).alloc (by simp) _
  have c0 : W.cell? ⟨w.heap.size, 0, none⟩ = some (.int .i64 p) := by rw [hW]; exact alloc_keeps (pair0 w _ _ _) _
  have c1 : W.cell? ⟨w.heap.size, 1, none⟩ = some (.slice a n c) := by rw [hW]; exact alloc_keeps (pair1 w _ _ _) _
  have q0 : W.heap[w.heap.size + 1]? = some (.cells #[.int .i64 0, .slice none 0 0] 45 (0, 0)) := by
    rw [hW]
    have := heap_alloc_new (w.alloc (.cells #[.int .i64 p, .slice a n c] 45)) (.cells #[.int .i64 0, .slice none 0 0] 45)
    rwa [World.size_alloc] at this
  have e0 : W.cell? ⟨w.heap.size + 1, 0, none⟩ = some (.int .i64 0) := by rw [cell_of_row _ _ 0 _ _ (0, 0) q0]; rfl
  have e1 : W.cell? ⟨w.heap.size + 1, 1, none⟩ = some (.slice none 0 0) := by rw [cell_of_row _ _ 1 _ _ (0, 0) q0]; rfl
  have f0 : W.frozen? ⟨w.heap.size + 1, 0, none⟩ = false := frozen_of_row _ _ 0 _ _ q0
  have f1 : W.frozen? ⟨w.heap.size + 1, 1, none⟩ = false := frozen_of_row _ _ 1 _ _ q0
  have HA := ha.below B0
  clear ha q0
  cases hg : goodS p ss with
  | false =>
    have HG := Hid.mk hg
    clear hg
    go_enter Try.func28, Try.ntmps28
    go_wp2_with fail
    rw [← hW]
    clear hW
    refine (specGoodStream _ _ _ ss _ _ hs HA).mono ?_
    rintro e w1 ⟨rfl, hb1⟩
    rw [HG.out]
    have B1 := B0.trans (hb1.mono B0.size)
    replace f0 := frozen_later hb1 e0 f0
    replace f1 := frozen_later hb1 e1 f1
    replace e0 := cell_later hb1 e0
    replace e1 := cell_later hb1 e1
    replace c0 := cell_later hb1 c0
    replace c1 := cell_later hb1 c1
    go_wp2
    refine bodyPost_ret (v := .tuple #[.agg #[.int .i64 0, .slice none 0 0], .bool false]) (by simp [results, Try.results28, go_sem, e0, e1]) rfl ⟨StrAns.zero (strB_no HG.out) rfl, ?_⟩
    exact (B1.setCell (by show w.heap.size ≤ w.heap.size + 1; omega) _).setCell (by show w.heap.size ≤ w.heap.size + 1; omega) _
  | true =>
    have HG := Hid.mk hg
    obtain ⟨hinc, hn12, hgd⟩ := goodS_parts hg
    rw [hz] at hn12 hgd
    obtain ⟨q, hq⟩ : ∃ q : Nat, p = q := ⟨p.toNat, by have := inc_range hinc; omega⟩
    subst hq
    have h6 : q ≤ 6 := by have := inc_range hinc; omega
    obtain ⟨f, hf⟩ : ∃ f, f = (fun k => (tat ss k).2) := ⟨_, rfl⟩
    have HF := Hid.mk hf
    have HFL : Hid (∀ k, k < n → Lst q 60 1000000 (f k)) := fun k hk => by rw [hf]; exact goodT_lst (hgd k hk).2
    have HNB : Hid (strB q ss (upto (diffK (fun k => (tat ss k).2)) n) = allG q (upto (diffK f) n)) := by show _ = _; rw [hf]; exact strB_yes HG.out
    clear hg hgd hinc hf
    go_enter Try.func28, Try.ntmps28
    go_wp2_with fail
    rw [← hW]
    clear hW
    refine (specGoodStream _ _ _ ss _ _ hs HA).mono ?_
    rintro e w1 ⟨rfl, hb1⟩
    rw [HG.out]
    have B1 := B0.trans (hb1.mono B0.size)
    replace f0 := frozen_later hb1 e0 f0
    replace f1 := frozen_later hb1 e1 f1
    replace e0 := cell_later hb1 e0
    replace e1 := cell_later hb1 e1
    replace c0 := cell_later hb1 c0
    replace c1 := cell_later hb1 c1
    have HA2 := HA.below hb1
    clear HA hb1
    go_wp2
    go_loopw [4, 5, 15] (fun o o2 i wr => ∃ (k : Nat) (r : Option Addr) (d : Nat) (cs : List Value) (rs : Option Addr) (ms ds : Nat), k ≤ n ∧ i = .int .i64 k ∧ o = .slice r k d ∧ o2 = .slice rs ms ds ∧ wr.ownsRow w1.heap.size 23 1 (.slice r k d) k cs ∧ MeansLG (NotIn (.slice r k d)) wr cs (diffK f) k ∧ ((prevK f k).length = ms ∧ AtM w1 rs (prevK f k)) ∧ Below w1.heap.size w1 wr) (fun _ _ i _ => n - (intOf i).toNat)
    case atStart => exact ⟨0, none, 0, [], none, 0, 0, Nat.zero_le _, rfl, rfl, rfl, World.ownsRow_nil _ _ _ _, MeansLG.nil _ _ _, ⟨rfl, atM_nil _ _⟩, Below.refl _ _⟩
    case round =>
      obtain ⟨k, r, d, cs, rs, ms, ds, hk, rfl, rfl, rfl, ho, hme, hsec, hbw⟩ := hrel
      have HO := Hid.mk ho
      have HME := Hid.mk hme
      have HSE := Hid.mk hsec
      clear ho hme hsec
      replace f0 := frozen_later hbw e0 f0
      replace f1 := frozen_later hbw e1 f1
      replace e0 := cell_later hbw e0
      replace e1 := cell_later hbw e1
      replace c0 := cell_later hbw c0
      replace c1 := cell_later hbw c1
      by_cases hlt : k < n
      · obtain ⟨b, off, rfl, hc⟩ := HA2.some (by omega)
        obtain ⟨q', d', hcw, hcx, _, hFq, hat⟩ := hc k (by omega)
        have hki : (k : Int) < (n : Int) := by omega
        have hfk : f k = (tat ss k).2 := by rw [HF.out]
        have hat' : AtM w1 q' (f k) := by rw [hfk]; exact hat
        rw [← hfk] at hcx hFq
        have hln := (HFL.out k hlt).len
        generalize (tat ss k).1 = x at *
        obtain ⟨m, hm⟩ : ∃ m, (f k).length = m := ⟨_, rfl⟩
        rw [hm] at hcx hFq hln
        have HM := Hid.mk hm
        replace hcw := cell_later hbw hcw
        replace hcx := cell_later hbw hcx
        have HATG : Hid (AtMG (NotIn (.slice r k d)) wr q' (f k)) := (hat'.toG (notIn_low HO.out)).below hbw
        have HFQ := Hid.mk hFq
        have HAT1 := Hid.mk hat'
        obtain ⟨V, hV⟩ : ∃ V, V = wr.alloc (.cells #[.int .i64 x, .slice q' m d'] 25) := ⟨_, rfl⟩
        have hbV : Below wr.heap.size wr V := by rw [hV]; exact (Below.refl _ _).alloc (Nat.le_refl _) _
        have zV : V.heap.size = wr.heap.size + 1 := by rw [hV]; simp
        have v0 : V.cell? ⟨wr.heap.size, 0, none⟩ = some (.int .i64 x) := by rw [hV]; exact pair0 wr _ _ _
        have v1 : V.cell? ⟨wr.heap.size, 1, none⟩ = some (.slice q' m d') := by rw [hV]; exact pair1 wr _ _ _
        have B3 := hbw.trans (hbV.mono hbw.size)
        have HOV := Hid.mk (owns_below HO.out hbV)
        have HMV := Hid.mk (HME.out.below hbV)
        have HGF : Hid (∀ j, V.heap.size ≤ j → NotIn (.slice r k d) j) := notIn_fresh HO.out (by omega)
        clear hc hfk hat hat' hm
        obtain ⟨hsl, hsA⟩ := HSE.out
        have HPL := Hid.mk hsl
        have hpl := prevK_lst HFL.out k hlt
        have hm60 : ms ≤ 60 := by have := hpl.len; omega
        have HPG : Hid (∀ s ∈ prevK f k, s.1.length ≤ 6 ∧ -1000000 ≤ s.2 ∧ s.2 ≤ 1000000) := fun s hs => ⟨by have := (hpl.rows s hs).2; omega, hpl.within s hs⟩
        have HPN := Hid.mk hpl.neg
        have HPA := Hid.mk ((hsA.below B3).below (Below.refl _ _).drew)
        have HATD := Hid.mk ((HATG.out.below hbV).below (Below.refl _ _).drew)
        have HOD := Hid.mk (owns_below HOV.out (Below.refl _ _).drew)
        have HMD := Hid.mk (HMV.out.below (Below.refl _ _).drew)
        have HNV : Hid (NotIn (.slice r k d) wr.heap.size) := notIn_fresh HO.out (Nat.le_refl _) _ (Nat.le_refl _)
        have HPS : Hid (AtM w1 q' (f k)) := HAT1.out
        clear hsl hsA HSE hpl HATG hbV
        go_wp2_with fail
        rw [← hV]
        clear hV hcw hcx
        refine wp_region_held_drew (S := fun w' => w'.cell? ⟨wr.heap.size, 1, none⟩ = some (.slice q' m d')) (by kernel_rfl) ?_ (fun hHeld => ?_)
        · (try dsimp only)
          exact v1
        refine wpAnyH_take (i := 0) (oi := ?_) (v := ?_) ?_ (by kernel_rfl) (by kernel_rfl) (by kernel_rfl) ?_ (Or.inl ⟨?_, ?_⟩) (by assumption) ?_
        rotate_left 2
        · (simp only [List.getElem?_toArray, List.getElem?_cons_zero]; rfl)
        · exact fun _ _ _ h => h
        · rfl
        · (intro wS hSw; (try dsimp only at hSw); go_simp; (try with_reducible rfl))
        (try simp only [Act.put, List.setIfInBounds_toArray, List.set_cons_zero, List.set_cons_succ])
        refine wpAnyH_take (i := 1) (oi := ?_) (v := ?_) ?_ (by kernel_rfl) (by kernel_rfl) (by kernel_rfl) ?_ (Or.inl ⟨?_, ?_⟩) (by assumption) ?_
        rotate_left 2
        · (simp only [List.getElem?_toArray, List.getElem?_cons_zero, List.getElem?_cons_succ]; rfl)
        · exact fun _ _ _ h => h
        · rfl
        · (intro wS hSw; (try dsimp only at hSw); go_simp; (try with_reducible rfl))
        (try simp only [Act.put, List.setIfInBounds_toArray, List.set_cons_zero, List.set_cons_succ])
        refine wpAnyH_take (i := 2) (oi := ?_) (v := ?_) ?_ (by kernel_rfl) (by kernel_rfl) (by kernel_rfl) ?_ (Or.inl ⟨?_, ?_⟩) (by assumption) ?_
        rotate_left 2
        · (simp only [List.getElem?_toArray, List.getElem?_cons_zero, List.getElem?_cons_succ]; rfl)
        · exact fun _ _ _ h => h
        · rfl
        · (intro wS hSw; (try dsimp only at hSw); go_simp; (try with_reducible rfl))
        (try simp only [Act.put, List.setIfInBounds_toArray, List.set_cons_zero, List.set_cons_succ])
        refine wpAnyH_take (i := 3) (oi := ?_) (v := ?_) ?_ (by kernel_rfl) (by kernel_rfl) (by kernel_rfl) ?_ (Or.inl ⟨?_, ?_⟩) (by assumption) ?_
        rotate_left 2
        · (simp only [List.getElem?_toArray, List.getElem?_cons_zero, List.getElem?_cons_succ]; rfl)
        · exact fun _ _ _ h => h
        · rfl
        · (intro wS hSw; (try dsimp only at hSw); go_simp; (try with_reducible rfl))
        (try simp only [Act.put, List.setIfInBounds_toArray, List.set_cons_zero, List.set_cons_succ])
        refine wpAnyH_ready (rs := [4]) (by kernel_rfl) (by simp) ?_
        refine AllReadyH.cons (o := ?_) ?_ (fun K hK => ?_) AllReadyH.nil
        rotate_left
        · (simp only [List.getElem?_toArray, List.getElem?_cons_zero, List.getElem?_cons_succ]; rfl)
        go_simp
        go_at_call 81; refine (l2Scale_any _ _ _ (prevK f k) (-1) _ HPL.out (by omega) (by omega) (by omega) HPG.out HPA.out).mono ?_; rintro e w2 ⟨r2, m2, d2, rfl, hl2, ha2, hb2⟩; have v1 := cell_later hb2 v1; have HL2 := Hid.mk hl2; have HA2' := Hid.mk ha2; have B2' := B3.drew.trans (hb2.mono B3.size); have HATV := Hid.mk (HATD.out.below hb2); have HO2 := Hid.mk (owns_below HOD.out hb2); have HM2 := Hid.mk (HMD.out.below hb2); have z2 : V.heap.size ≤ w2.heap.size := hb2.size; clear hl2 ha2
        (try go_wp2_with fail)
        refine hK.out _ _ ?_ (fun hHeld' => ?_)
        · (try dsimp only)
          exact v1
        clear hK K hHeld
        have hHeld := hHeld'
        clear hHeld'
        (try simp only [Act.put, List.setIfInBounds_toArray, List.set_cons_zero, List.set_cons_succ])
        refine wpAnyH_ready (rs := [5]) (by kernel_rfl) (by simp) ?_
        refine AllReadyH.cons (o := ?_) ?_ (fun K hK => ?_) AllReadyH.nil
        rotate_left
        · (simp only [List.getElem?_toArray, List.getElem?_cons_zero, List.getElem?_cons_succ]; rfl)
        go_simp
        go_at_call 66; refine (l2AddL _ _ _ _ _ _ q 60 60 1000000 1000000 (f k) (scaleW (prevK f k) (-1)) _ (fun j hj => HGF.out j (by omega)) HM.out HL2.out h6 (HFL.out k hlt) HPN.out (by omega) (by omega) (by omega) (by omega) (by omega) HFQ.out HATV.out HA2'.out).mono ?_; rintro e w3 ⟨r3, m3, d3, rfl, hl3, hF3, ha3, hb3⟩; have v1 := cell_later hb3 v1; have HO3 := Hid.mk (owns_below HO2.out hb3); have HM3 := Hid.mk (HM2.out.below hb3); have B4 := B2'.trans (hb3.mono B2'.size); have HLN : Hid ((diffK f k).length = m3) := hl3; have HA3 : Hid (AtMG (NotIn (.slice r k d)) w3 r3 (diffK f k)) := ha3; clear hl3 hF3 ha3
        (try go_wp2_with fail)
        refine hK.out _ _ ?_ (fun hHeld' => ?_)
        · (try dsimp only)
          exact v1
        clear hK K hHeld
        have hHeld := hHeld'
        clear hHeld'
        (try simp only [Act.put, List.setIfInBounds_toArray, List.set_cons_zero, List.set_cons_succ])
        refine wpAnyH_ready (rs := [6]) (by kernel_rfl) (by simp) ?_
        refine AllReadyH.cons (o := ?_) ?_ (fun K hK => ?_) AllReadyH.nil
        rotate_left
        · (simp only [List.getElem?_toArray, List.getElem?_cons_zero, List.getElem?_cons_succ]; rfl)
        go_simp
        skip
        (try go_wp2_with fail)
        refine hK.out _ _ ?_ (fun hHeld' => ?_)
        · (try dsimp only)
          exact cell_later ((Below.refl _ _).alloc (Nat.le_refl _) _) v1
        clear hK K hHeld
        have hHeld := hHeld'
        clear hHeld'
        (try simp only [Act.put, List.setIfInBounds_toArray, List.set_cons_zero, List.set_cons_succ])
        refine wpAnyH_ready (rs := [7]) (by kernel_rfl) (by simp) ?_
        refine AllReadyH.cons (o := ?_) ?_ (fun K hK => ?_) AllReadyH.nil
        rotate_left
        · (simp only [List.getElem?_toArray, List.getElem?_cons_zero, List.getElem?_cons_succ]; rfl)
        refine step_append_lies _ rfl (.tmp 19) (.tmp 25) 110 rfl w1.heap.size 23 i0 (.slice none 0 0) 1 24 Try.underlying110 hi hz0 hz1 hz2 rfl (by decide) (.slice r k d) k cs (by simp [Act.eval]) (HO3.out.alloc _) ⟨w3.heap.size, 0, none⟩ 1 1 [.slice r3 m3 d3] (by simp [Act.eval]) rfl (by simpa using news_at w3 #[.slice r3 m3 d3] 23) (by intro u hu; simp at hu; subst hu; rfl) (by decide) (by unfold maxLen; omega) (by omega) (by have := B4.size; simp; omega) (w3.heap.size + 1) (by simp) ?_; intro g5 cap5 w5 hown5 hgrow5 hat5 hlt5; have v5 : w5.cell? ⟨wr.heap.size, 1, none⟩ = some (.slice q' m d') := hgrow5.cell (cell_later ((Below.refl _ _).alloc (Nat.le_refl _) _) v1) (fun e => HNV.out e.symm)
        refine hK.out _ _ ?_ (fun hHeld' => ?_)
        · (try dsimp only)
          exact v5
        clear hK K hHeld
        have hHeld := hHeld'
        clear hHeld'
        (try simp only [Act.put, List.setIfInBounds_toArray, List.set_cons_zero, List.set_cons_succ])
        refine wpAnyH_take (i := 8) (oi := ?_) (v := ?_) ?_ (by kernel_rfl) (by kernel_rfl) (by kernel_rfl) ?_ (Or.inl ⟨?_, ?_⟩) (by assumption) ?_
        rotate_left 2
        · (simp only [List.getElem?_toArray, List.getElem?_cons_zero, List.getElem?_cons_succ]; rfl)
        · exact fun _ _ _ h => h
        · rfl
        · (intro wS hSw; (try dsimp only at hSw); go_simp; (try with_reducible rfl))
        (try simp only [Act.put, List.setIfInBounds_toArray, List.set_cons_zero, List.set_cons_succ])
        refine wpAnyH_done (by kernel_rfl) ?_ _
        have hbA : Below w3.heap.size w3 (w3.alloc (.cells #[.slice r3 m3 d3] 23)) := (Below.refl _ _).alloc (Nat.le_refl _) _
        have hrb : ∀ j, (Value.slice r k d).ownBlock = some j → w1.heap.size ≤ j := fun j hj => (HO3.out.lt j hj).1
        have HB5 := Hid.mk ((B4.alloc B4.size _).grown hgrow5 (by have := B4.size; simp; omega) (fun j hj => hrb j hj))
        have HO5 := Hid.mk hown5
        have HM5 : Hid (MeansLG (NotIn (.slice (some ⟨g5, 0, none⟩) (k + 1) cap5)) w5 (cs ++ [.slice r3 m3 d3]) (diffK f) (k + 1)) := ((HM3.out.push (a := r3) (m := m3) (c := d3) HLN.out HA3.out).below hbA).appended hgrow5 hat5 (by simp) rfl
        have HS5 : Hid ((prevK f (k + 1)).length = m ∧ AtM w1 q' (prevK f (k + 1))) := by
          show _ ∧ _
          rw [prevK_succ]
          exact ⟨HM.out, HPS.out⟩
        clear hown5 hgrow5 hat5 hlt5 HO3 hrb hbw HME hbA HM3 B4 v0 v1 hHeld B2' hb2 hb3
        go_wp2
        go_roundw
        case rel => exact ⟨k + 1, _, _, _, _, _, _, by omega, by go_num, rfl, rfl, HO5.out, HM5.out, HS5.out, HB5.out⟩
        case measure => simp [intOf]; omega
      · obtain rfl : k = n := by omega
        have HAL := HME.out.atL HO.out
        have HSZ : Hid (∀ i, i < k → (lat (upto (diffK f) k) i).length ≤ 1048576 ∧ ∀ t ∈ lat (upto (diffK f) k) i, t.1.length ≤ 6) := fun i hi => by
          rw [upto_at (diffK f) k i hi]
          have hgi := (diffK_lst HFL.out i hi)
          have := hgi.len
          exact ⟨by omega, fun t ht => by have := (hgi.rows t ht).2; omega⟩
        have zR : w.heap.size + 1 < wr.heap.size := World.block_lt_of_cell? _ _ e0
        have ZR := Hid.mk zR
        clear zR HSE
        go_wp2_with fail
        refine (l4Stream_any _ _ _ q (upto (diffK f) k) _ (upto_length _ _) (by omega) HSZ.out HAL).mono ?_
        rintro e w6 ⟨⟨r6, m6, d6, rfl, ho6⟩, hb6⟩
        generalize hok6 : allG q (upto (diffK f) k) = ok6 at ho6 ⊢
        have HOK := Hid.mk hok6
        clear hok6
        have B2 := B1.trans (hbw.mono B1.size)
        have B6 := B2.trans (hb6.mono B2.size)
        replace f0 := frozen_later hb6 e0 f0
        replace f1 := frozen_later hb6 e1 f1
        replace e0 := cell_later hb6 e0
        replace e1 := cell_later hb6 e1
        clear hb6 HAL HO HME hbw HA2
        go_wp2
        refine bodyPost_ret (v := .tuple #[.agg #[.int .i64 (ansP ok6 q), .slice r6 m6 d6], .bool ok6]) (by simp [results, Try.results28, go_sem, e0, e1]) rfl ⟨?_, ?_⟩
        · rw [HNB.out, HOK.out]
          refine ⟨r6, m6, d6, rfl, ?_⟩
          rw [← HF.out]
          exact (ho6.set2 (g := w.heap.size + 1) (.inl ZR.out) _ _).widen (Nat.le_of_lt (Nat.lt_of_le_of_lt (Nat.le_succ _) ZR.out)) (by simp [World.setCell]) (Nat.le_refl _)
        · exact (B6.setCell (by show w.heap.size ≤ w.heap.size + 1; omega) _).setCell (by show w.heap.size ≤ w.heap.size + 1; omega) _

end Go.Proofs.Ytmkhdocjabflkaa
