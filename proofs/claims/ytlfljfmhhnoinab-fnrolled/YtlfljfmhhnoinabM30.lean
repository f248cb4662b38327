/- Contract of spec.GroupsAsTable. -/
import Derived.Test.YtlfljfmhhnoinabM29
import Derived.Test.YtlfljfmhhnoinabM23
import Derived.Test.YtlfljfmhhnoinabM6
namespace Go.Proofs.Ytlfljfmhhnoinab
open Go.RowKit

theorem at_two {w : World} {b : Nat} {x y : Int} (h0 : w.cell? ⟨b, 0, none⟩ = some (.int .i64 x)) (h1 : w.cell? ⟨b, 1, none⟩ = some (.int .i64 y)) : At w (some ⟨b, 0, none⟩) [x, y] := .inr ⟨b, 0, rfl, fun i hi => by
  match i, hi with
  | 0, _ => simpa using h0
  | 1, _ => simpa using h1⟩
theorem at_cell0 {w : World} {b : Nat} {x y : Int} (h : At w (some ⟨b, 0, none⟩) [x, y]) : w.cell? ⟨b, 0, none⟩ = some (.int .i64 x) := by
  rcases h with h | ⟨b', off, e, hc⟩
  ·cases h
  ·cases e
   simpa using hc 0 (by simp)

set_option maxRecDepth 100000 in
set_option maxHeartbeats 8000000 in
theorem specGroupsAsTable (a : Option Addr) (n c : Nat) (ts : List GRow) (w : World) (hz : ts.length = n) (hn : n ≤ 1048576) (ha : AtN w a ts) :
   Calls Try.prog 25 #[.slice a n c] w fun e w' => TabAns e w' w.heap.size (gaB ts) (gaP ts) (gaRows ts) ∧ Below w.heap.size w w' := by
  obtain ⟨j0, hj, hy0, hy1, hy2⟩ := info_parts Try.infoInt
  obtain ⟨i0, hi, hz0, hz1, hz2⟩ := info_parts Try.infoW
  have B1 : Below w.heap.size w (w.alloc (.cells #[.int .i64 0, .slice none 0 0] 32)) := (Below.refl _ _).alloc (Nat.le_refl _) _
  have q0 : (w.alloc (.cells #[.int .i64 0, .slice none 0 0] 32)).heap[w.heap.size]? = some (.cells #[.int .i64 0, .slice none 0 0] 32 (0, 0)) := heap_alloc_new w _
  have HA := Hid.mk ha
  clear ha
  cases hg : goodV ts with
  | false =>
   have HG := Hid.mk hg
   clear hg
   go_enter Try.func25, Try.ntmps25
   go_wp2_with fail
   refine (specGoodGroups_any _ _ _ ts _ hz hn (HA.out.below B1).atV).mono ?_
   rintro e w1 ⟨rfl, hb1⟩
   rw [HG.out]
   have Q0 := (hb1.block w.heap.size (by simp)).trans q0
   have e0 : w1.cell? ⟨w.heap.size, 0, none⟩ = some (.int .i64 0) := by rw [cell_of_row w1 _ 0 _ _ (0, 0) Q0]; rfl
   have e1 : w1.cell? ⟨w.heap.size, 1, none⟩ = some (.slice none 0 0) := by rw [cell_of_row w1 _ 1 _ _ (0, 0) Q0]; rfl
   have f0 : w1.frozen? ⟨w.heap.size, 0, none⟩ = false := frozen_of_row w1 _ 0 _ _ Q0
   have f1 : w1.frozen? ⟨w.heap.size, 1, none⟩ = false := frozen_of_row w1 _ 1 _ _ Q0
   have B2 : Below w.heap.size w w1 := B1.trans (hb1.mono B1.size)
   go_wp2
   refine bodyPost_ret (v := .tuple #[.agg #[.int .i64 0, .slice none 0 0], .bool false]) (by simp [results, Try.results25, go_sem, e0, e1]) rfl ⟨TabAns.zero (gaB_good HG.out) rfl, (B2.setCell (by simp) _).setCell (by simp) _⟩
  | true =>
   have HG := Hid.mk hg
   clear hg
   have hn60 : n ≤ 60 := by have := (goodV_parts HG.out).1; omega
   go_enter Try.func25, Try.ntmps25
   go_wp2_with fail
   refine (specGoodGroups_any _ _ _ ts _ hz hn (HA.out.below B1).atV).mono ?_
   rintro e w1 ⟨rfl, hb1⟩
   rw [HG.out]
   have Q0 := (hb1.block w.heap.size (by simp)).trans q0
   have e0 : w1.cell? ⟨w.heap.size, 0, none⟩ = some (.int .i64 0) := by rw [cell_of_row w1 _ 0 _ _ (0, 0) Q0]; rfl
   have e1 : w1.cell? ⟨w.heap.size, 1, none⟩ = some (.slice none 0 0) := by rw [cell_of_row w1 _ 1 _ _ (0, 0) Q0]; rfl
   have f0 : w1.frozen? ⟨w.heap.size, 0, none⟩ = false := frozen_of_row w1 _ 0 _ _ Q0
   have f1 : w1.frozen? ⟨w.heap.size, 1, none⟩ = false := frozen_of_row w1 _ 1 _ _ Q0
   have B2 : Below w.heap.size w w1 := B1.trans (hb1.mono B1.size)
   have z1 : w.heap.size + 1 ≤ w1.heap.size := by have := hb1.size; simpa using this
   clear Q0 q0 hb1 B1
   obtain ⟨W, hW⟩ : ∃ W, W = w1.alloc (.cells #[.int .i64 0, .slice none 0 0] 32) := ⟨_, rfl⟩
   have BW : Below w1.heap.size w1 W := by rw [hW]; exact (Below.refl _ _).alloc (Nat.le_refl _) _
   have T0 : TabVar W w1.heap.size 0 none 0 0 [] [] := by rw [hW]; exact TabVar.new w1 0
   go_wp2
   rw [← hW]
   clear hW
   go_loopw [15] (fun i wr => ∃ (k : Nat) (r' : Option Addr) (d' : Nat) (cells : List Value), k ≤ n ∧ i = .int .i64 k ∧ TabVar wr w1.heap.size (gaC ts k) r' k d' ((gaRows ts).take k) cells ∧ True ∧ Below w1.heap.size w1 wr) (fun i _ => n - (intOf i).toNat)
   case atStart => exact ⟨0, none, 0, [], Nat.zero_le _, rfl, T0, True.intro, BW⟩
   case round =>
    clear T0 BW
    obtain ⟨k, r', d', cells, hk, rfl, hv, hall, hbw⟩ := hrel
    have zR := hv.lt
    have B3 : Below w.heap.size w wr := B2.trans (hbw.mono (by omega))
    replace f0 := frozen_later hbw e0 f0
    replace f1 := frozen_later hbw e1 f1
    replace e0 := cell_later hbw e0
    replace e1 := cell_later hbw e1
    have HALL := Hid.mk hall
    clear hall
    by_cases hlt : k < n
    ·obtain ⟨b, off, rfl, hc⟩ := (HA.out.below B3).some (by omega)
     obtain ⟨q, dd, hcx, hwx, hvx, hm, hnil, hat⟩ := hc k (by omega)
     have hki : (k : Int) < (n : Int) := by omega
     obtain ⟨g1, g2, _, _⟩ := goodV_at HG.out k (by omega)
     have HS := Hid.mk (gaRows_take (ts := ts) k (by omega))
     have HNB : Hid (good (gaRow (gat ts k)) = false → gaB ts = false) := gaB_row k (by omega)
     have HGC := Hid.mk (gaC_succ (ts := ts) k)
     rw [← g2] at HGC
     have hm6 := good_len g1
     generalize gat ts k = Y at *
     obtain ⟨ys, x, y⟩ := Y
     simp only [gaRow] at hcx hwx hvx hat hm HS HGC HNB hm6
     obtain ⟨m, hmm⟩ : ∃ m, ys.length = m := ⟨_, rfl⟩
     rw [hmm] at hcx hm HGC hm6
     have HM := Hid.mk hmm
     have HNIL := Hid.mk hnil
     clear hc g1 g2 hmm hnil
     obtain ⟨V, hV⟩ : ∃ V, V = wr.alloc (.cells #[.slice q m dd, .int .i64 x, .int .i64 y] 73) := ⟨_, rfl⟩
     have zWVb : Below wr.heap.size wr V := by rw [hV]; exact (Below.refl _ _).alloc (Nat.le_refl _) _
     have zWV : wr.heap.size ≤ V.heap.size := zWVb.size
     have c0 : V.cell? ⟨wr.heap.size, 0, none⟩ = some (.slice q m dd) := by rw [hV]; exact trip0 wr _ _ _ _
     have c1 : V.cell? ⟨wr.heap.size, 1, none⟩ = some (.int .i64 x) := by rw [hV]; exact trip1 wr _ _ _ _
     have c2 : V.cell? ⟨wr.heap.size, 2, none⟩ = some (.int .i64 y) := by rw [hV]; exact trip2 wr _ _ _ _
     have HATV := Hid.mk (hat.below zWVb)
     go_upto_region 7 with fail
     rw [← hV]
     clear hV hat
     go_cut [7] (fun tb wx => ∃ (Rb : Nat) (r2 : Option Addr) (d2 : Nat), tb = .pointer (some ⟨Rb, 0, none⟩) ∧ wx.cell? ⟨Rb, 0, none⟩ = some (.slice r2 (m + 2) d2) ∧ wx.ownsRow wr.heap.size 3 1 (.slice r2 (m + 2) d2) (m + 2) (ys.map (.int .i64) ++ [x, y].map (.int .i64)) ∧ V.heap.size ≤ Rb ∧ Rb < wx.heap.size ∧ Below wr.heap.size wr wx)
     case first =>
      clear hv hcx hwx hvx
      refine wp_region_held_drew (S := fun w' => w'.cell? ⟨wr.heap.size, 0, none⟩ = some (.slice q m dd) ∧ w'.cell? ⟨wr.heap.size, 1, none⟩ = some (.int .i64 x) ∧ w'.cell? ⟨wr.heap.size, 2, none⟩ = some (.int .i64 y)) (by kernel_rfl) ?_ (fun hHeld => ?_)
      ·(try dsimp only)
       exact ⟨c0, c1, c2⟩
      refine wpAnyH_take (i := 1) (oi := ?_) (v := ?_) ?_ (by kernel_rfl) (by kernel_rfl) (by kernel_rfl) ?_ (Or.inl ⟨?_, ?_⟩) (by assumption) ?_
      rotate_left 2
      ·(simp only [List.getElem?_toArray, List.getElem?_cons_zero, List.getElem?_cons_succ]; rfl)
      ·exact fun _ _ _ h => h
      ·rfl
      ·(intro wS hSw; (try dsimp only at hSw); go_simp; (try with_reducible rfl))
      (try simp only [Act.put, List.setIfInBounds_toArray, List.set_cons_zero, List.set_cons_succ])
      refine wpAnyH_take (i := 2) (oi := ?_) (v := ?_) ?_ (by kernel_rfl) (by kernel_rfl) (by kernel_rfl) ?_ (Or.inl ⟨?_, ?_⟩) (by assumption) ?_
      rotate_left 2
      ·(simp only [List.getElem?_toArray, List.getElem?_cons_zero, List.getElem?_cons_succ]; rfl)
      ·exact fun _ _ _ h => h
      ·rfl
      ·(intro wS hSw; (try dsimp only at hSw); go_simp; (try with_reducible rfl))
      (try simp only [Act.put, List.setIfInBounds_toArray, List.set_cons_zero, List.set_cons_succ])
      refine wpAnyH_take (i := 3) (oi := ?_) (v := ?_) ?_ (by kernel_rfl) (by kernel_rfl) (by kernel_rfl) ?_ (Or.inl ⟨?_, ?_⟩) (by assumption) ?_
      rotate_left 2
      ·(simp only [List.getElem?_toArray, List.getElem?_cons_zero, List.getElem?_cons_succ]; rfl)
      ·exact fun _ _ _ h => h
      ·rfl
      ·(intro wS hSw; (try dsimp only at hSw); go_simp; (try with_reducible rfl))
      (try simp only [Act.put, List.setIfInBounds_toArray, List.set_cons_zero, List.set_cons_succ])
      refine wpAnyH_take (i := 5) (oi := ?_) (v := ?_) ?_ (by kernel_rfl) (by kernel_rfl) (by kernel_rfl) ?_ (Or.inl ⟨?_, ?_⟩) (by assumption) ?_
      rotate_left 2
      ·(simp only [List.getElem?_toArray, List.getElem?_cons_zero, List.getElem?_cons_succ]; rfl)
      ·exact fun _ _ _ h => h
      ·rfl
      ·(intro wS hSw; (try dsimp only at hSw); go_simp; (try with_reducible rfl))
      (try simp only [Act.put, List.setIfInBounds_toArray, List.set_cons_zero, List.set_cons_succ])
      refine wpAnyH_take (i := 6) (oi := ?_) (v := ?_) ?_ (by kernel_rfl) (by kernel_rfl) (by kernel_rfl) ?_ (Or.inl ⟨?_, ?_⟩) (by assumption) ?_
      rotate_left 2
      ·(simp only [List.getElem?_toArray, List.getElem?_cons_zero, List.getElem?_cons_succ]; rfl)
      ·exact fun _ _ _ h => h
      ·rfl
      ·(intro wS hSw; (try dsimp only at hSw); go_simp; (try with_reducible rfl))
      (try simp only [Act.put, List.setIfInBounds_toArray, List.set_cons_zero, List.set_cons_succ])
      refine wpAnyH_take (i := 7) (oi := ?_) (v := ?_) ?_ (by kernel_rfl) (by kernel_rfl) (by kernel_rfl) ?_ (Or.inl ⟨?_, ?_⟩) (by assumption) ?_
      rotate_left 2
      ·(simp only [List.getElem?_toArray, List.getElem?_cons_zero, List.getElem?_cons_succ]; rfl)
      ·exact fun _ _ _ h => h
      ·rfl
      ·(intro wS hSw; (try dsimp only at hSw); go_simp; (try with_reducible rfl))
      (try simp only [Act.put, List.setIfInBounds_toArray, List.set_cons_zero, List.set_cons_succ])
      refine wpAnyH_take (i := 8) (oi := ?_) (v := ?_) ?_ (by kernel_rfl) (by kernel_rfl) (by kernel_rfl) ?_ (Or.inl ⟨?_, ?_⟩) (by assumption) ?_
      rotate_left 2
      ·(simp only [List.getElem?_toArray, List.getElem?_cons_zero, List.getElem?_cons_succ]; rfl)
      ·exact fun _ _ _ h => h
      ·rfl
      ·(intro wS hSw; (try dsimp only at hSw); go_simp; (try with_reducible rfl))
      (try simp only [Act.put, List.setIfInBounds_toArray, List.set_cons_zero, List.set_cons_succ])
      obtain ⟨v0, hu0⟩ : ∃ u, u = V.drew := ⟨_, rfl⟩
      have Y0 : Below V.heap.size V v0 := by rw [hu0]; exact (Below.refl _ _).drew
      rw [← hu0]
      clear hu0
      refine wpAnyH_ready (rs := [0, 9, 12]) (by kernel_rfl) (by simp) ?_
      refine AllReadyH.cons (o := ?_) ?_ (fun K hK => ?_) ?_
      rotate_left
      ·(simp only [List.getElem?_toArray, List.getElem?_cons_zero]; rfl)
      ·go_simp
       (try go_wp2_with fail)
       refine hK.out _ _ ?_ (fun hHeld' => ?_)
       ·(try dsimp only)
        exact ⟨cell_later (Y0.alloc Y0.size _) c0, cell_later (Y0.alloc Y0.size _) c1, cell_later (Y0.alloc Y0.size _) c2⟩
       clear hK K hHeld
       have hHeld := hHeld'
       clear hHeld'
       (try simp only [Act.put, List.setIfInBounds_toArray, List.set_cons_zero, List.set_cons_succ])
       obtain ⟨v1, hU1⟩ : ∃ u, u = v0.alloc (.cells #[] 3) := ⟨_, rfl⟩
       have hb1 : Below v0.heap.size v0 v1 := by rw [hU1]; exact (Below.refl _ _).alloc (Nat.le_refl _) _
       have zs1 : v0.heap.size < v1.heap.size := by rw [hU1]; simp
       have Y1 := Y0.trans (hb1.mono Y0.size)
       have zy1 := Y0.size
       have oo1 : v1.ownsRow V.heap.size 3 1 (.slice (some ⟨v0.heap.size, 0, none⟩) 0 0) 0 [] := by rw [hU1]; exact owns_mono (owns_empty v0 3 1) Y0.size
       rw [← hU1]
       clear hU1
       refine wpAnyH_ready (rs := [4, 9, 12]) (by kernel_rfl) (by simp) ?_
       refine AllReadyH.cons (o := ?_) ?_ (fun K hK => ?_) ?_
       rotate_left
       ·(simp only [List.getElem?_toArray, List.getElem?_cons_zero, List.getElem?_cons_succ]; rfl)
       ·refine step_append_all rfl (.tmp 19) (.tmp 22) 25 rfl V.heap.size 3 j0 (.int .i64 0) 8 Try.underlying25 hj hy0 hy1 hy2 rfl (.slice (some ⟨v0.heap.size, 0, none⟩) 0 0) 0 [] (by simp [Act.eval]) oo1 q m dd ys (by simp [Act.eval]) HM.out (HATV.out.below Y1) HNIL.out (by unfold maxLen; omega) (by omega) Y1.size ?_
        intro r2 d2 v2 oo2 hg2 ht2
        simp only [Nat.zero_add, List.nil_append] at oo2 ht2 ⊢
        have Y2 := Y1.grown hg2 Y1.size (fun j hj => (oo1.lt j hj).1)
        have zy2 := Y1.size
        have zg2 := hg2.size
        refine hK.out _ _ ?_ (fun hHeld' => ?_)
        ·(try dsimp only)
         exact ⟨cell_later Y2 c0, cell_later Y2 c1, cell_later Y2 c2⟩
        clear hK K hHeld
        have hHeld := hHeld'
        clear hHeld'
        (try simp only [Act.put, List.setIfInBounds_toArray, List.set_cons_zero, List.set_cons_succ])
        refine wpAnyH_ready (rs := [9, 12]) (by kernel_rfl) (by simp) ?_
        refine AllReadyH.cons (o := ?_) ?_ (fun K hK => ?_) ?_
        rotate_left
        ·(simp only [List.getElem?_toArray, List.getElem?_cons_zero, List.getElem?_cons_succ]; rfl)
        ·go_simp
         (try go_wp2_with fail)
         refine hK.out _ _ ?_ (fun hHeld' => ?_)
         ·(try dsimp only)
          exact ⟨cell_later (Y2.alloc Y2.size _) c0, cell_later (Y2.alloc Y2.size _) c1, cell_later (Y2.alloc Y2.size _) c2⟩
         clear hK K hHeld
         have hHeld := hHeld'
         clear hHeld'
         (try simp only [Act.put, List.setIfInBounds_toArray, List.set_cons_zero, List.set_cons_succ])
         obtain ⟨v3, hU3⟩ : ∃ u, u = v2.alloc (.cells #[.int .i64 x, .int .i64 y] 3) := ⟨_, rfl⟩
         have hb3 : Below v2.heap.size v2 v3 := by rw [hU3]; exact (Below.refl _ _).alloc (Nat.le_refl _) _
         have zs3 : v2.heap.size < v3.heap.size := by rw [hU3]; simp
         have Y3 := Y2.trans (hb3.mono Y2.size)
         have zy3 := Y2.size
         have oo3 := owns_below oo2 hb3
         have pa3 : v3.cell? ⟨v2.heap.size, 0, none⟩ = some (.int .i64 x) := by rw [hU3]; exact pair0 v2 _ _ _
         have pb3 : v3.cell? ⟨v2.heap.size, 1, none⟩ = some (.int .i64 y) := by rw [hU3]; exact pair1 v2 _ _ _
         have pp3 : At v3 (some ⟨v2.heap.size, 0, none⟩) [x, y] := at_two pa3 pb3
         have np3 : (Value.slice r2 m d2).ownBlock ≠ some (v2.heap.size) := fun e => by have h9 := (oo2.lt _ e).2; omega
         rw [← hU3]
         clear hU3
         refine wpAnyH_ready (rs := [10, 12]) (by kernel_rfl) (by simp) ?_
         refine AllReadyH.cons (o := ?_) ?_ (fun K hK => ?_) ?_
         rotate_left
         ·(simp only [List.getElem?_toArray, List.getElem?_cons_zero, List.getElem?_cons_succ]; rfl)
         ·refine step_append_all rfl (.tmp 23) (.tmp 28) 25 rfl V.heap.size 3 j0 (.int .i64 0) 8 Try.underlying25 hj hy0 hy1 hy2 rfl (.slice r2 m d2) m (ys.map (.int .i64)) (by simp [Act.eval]) oo3 (some ⟨v2.heap.size, 0, none⟩) 2 2 [x, y] (by simp [Act.eval]) rfl pp3 (fun h => by cases h) (by unfold maxLen; omega) (by omega) Y3.size ?_
          intro r4 d4 v4 oo4 hg4 ht4
          have Y4 := Y3.grown hg4 Y3.size (fun j hj => (oo3.lt j hj).1)
          have zy4 := Y3.size
          have zg4 := hg4.size
          refine hK.out _ _ ?_ (fun hHeld' => ?_)
          ·(try dsimp only)
           exact ⟨cell_later Y4 c0, cell_later Y4 c1, cell_later Y4 c2⟩
          clear hK K hHeld
          have hHeld := hHeld'
          clear hHeld'
          (try simp only [Act.put, List.setIfInBounds_toArray, List.set_cons_zero, List.set_cons_succ])
          refine wpAnyH_take (i := 11) (oi := ?_) (v := ?_) ?_ (by kernel_rfl) (by kernel_rfl) (by kernel_rfl) ?_ (Or.inl ⟨?_, ?_⟩) (by assumption) ?_
          rotate_left 2
          ·(simp only [List.getElem?_toArray, List.getElem?_cons_zero, List.getElem?_cons_succ]; rfl)
          ·exact fun _ _ _ h => h
          ·rfl
          ·(intro wS hSw; (try dsimp only at hSw); go_simp; (try with_reducible rfl))
          (try simp only [Act.put, List.setIfInBounds_toArray, List.set_cons_zero, List.set_cons_succ])
          refine wpAnyH_ready (rs := [12]) (by kernel_rfl) (by simp) ?_
          refine AllReadyH.cons (o := ?_) ?_ (fun K hK => ?_) AllReadyH.nil
          rotate_left
          ·(simp only [List.getElem?_toArray, List.getElem?_cons_zero, List.getElem?_cons_succ]; rfl)
          go_simp
          (try go_wp2_with fail)
          refine hK.out _ _ ?_ (fun hHeld' => ?_)
          ·(try dsimp only)
           exact ⟨cell_later (Y4.alloc Y4.size _) c0, cell_later (Y4.alloc Y4.size _) c1, cell_later (Y4.alloc Y4.size _) c2⟩
          clear hK K hHeld
          have hHeld := hHeld'
          clear hHeld'
          (try simp only [Act.put, List.setIfInBounds_toArray, List.set_cons_zero, List.set_cons_succ])
          obtain ⟨v5, hU5⟩ : ∃ u, u = v4.alloc (.cells #[.slice none 0 0] 67) := ⟨_, rfl⟩
          have hb5 : Below v4.heap.size v4 v5 := by rw [hU5]; exact (Below.refl _ _).alloc (Nat.le_refl _) _
          have zs5 : v4.heap.size < v5.heap.size := by rw [hU5]; simp
          have Y5 := Y4.trans (hb5.mono Y4.size)
          have zy5 := Y4.size
          have oo5 := owns_below oo4 hb5
          have rr5 : v5.heap[v4.heap.size]? = some (.cells #[.slice none 0 0] 67 (0, 0)) := by rw [hU5]; exact heap_alloc_new _ _
          have zr5 : V.heap.size ≤ v4.heap.size := Y4.size
          have nr5 : (Value.slice r4 (m + 2) d4).ownBlock ≠ some (v4.heap.size) := fun e => by have h9 := (oo4.lt _ e).2; omega
          rw [← hU5]
          clear hU5
          have g0 : v5.cell? ⟨v4.heap.size, 0, none⟩ = some (.slice none 0 0) := by rw [cell_of_row _ _ 0 _ _ (0, 0) rr5]; rfl
          have g1 : v5.frozen? ⟨v4.heap.size, 0, none⟩ = false := frozen_of_row _ _ 0 _ _ rr5
          refine wpAnyH_ready (rs := [13]) (by kernel_rfl) (by simp) ?_
          refine AllReadyH.cons (o := ?_) ?_ (fun K hK => ?_) AllReadyH.nil
          rotate_left
          ·(simp only [List.getElem?_toArray, List.getElem?_cons_zero, List.getElem?_cons_succ]; rfl)
          go_simp
          (try go_wp2_with fail)
          refine hK.out _ _ ?_ (fun hHeld' => ?_)
          ·(try dsimp only)
           exact ⟨cell_later (Y5.setCell (p := ⟨v4.heap.size, 0, none⟩) zr5 _) c0, cell_later (Y5.setCell (p := ⟨v4.heap.size, 0, none⟩) zr5 _) c1, cell_later (Y5.setCell (p := ⟨v4.heap.size, 0, none⟩) zr5 _) c2⟩
          clear hK K hHeld
          have hHeld := hHeld'
          clear hHeld'
          (try simp only [Act.put, List.setIfInBounds_toArray, List.set_cons_zero, List.set_cons_succ])
          refine wpAnyH_done (by kernel_rfl) ?_ _
          (try go_wp2_with fail)
          go_meet
          case rel =>
           exact ⟨v4.heap.size, _, _, rfl, cell_set g0 _, owns_mono (oo5.kept (setCell_grown _ ⟨v4.heap.size, 0, none⟩ _) (.inr nr5)) zWV, zr5, lt_set g0 _, zWVb.trans ((Y5.setCell (p := ⟨v4.heap.size, 0, none⟩) zr5 _).mono zWV)⟩
         refine AllReadyH.cons (o := ?_) ?_ (fun K hK => ?_) AllReadyH.nil
         rotate_left
         ·(simp only [List.getElem?_toArray, List.getElem?_cons_zero, List.getElem?_cons_succ]; rfl)
         go_simp
         (try go_wp2_with fail)
         refine hK.out _ _ ?_ (fun hHeld' => ?_)
         ·(try dsimp only)
          exact ⟨cell_later (Y3.alloc Y3.size _) c0, cell_later (Y3.alloc Y3.size _) c1, cell_later (Y3.alloc Y3.size _) c2⟩
         clear hK K hHeld
         have hHeld := hHeld'
         clear hHeld'
         (try simp only [Act.put, List.setIfInBounds_toArray, List.set_cons_zero, List.set_cons_succ])
         obtain ⟨v6, hU6⟩ : ∃ u, u = v3.alloc (.cells #[.slice none 0 0] 67) := ⟨_, rfl⟩
         have hb6 : Below v3.heap.size v3 v6 := by rw [hU6]; exact (Below.refl _ _).alloc (Nat.le_refl _) _
         have zs6 : v3.heap.size < v6.heap.size := by rw [hU6]; simp
         have Y6 := Y3.trans (hb6.mono Y3.size)
         have zy6 := Y3.size
         have oo6 := owns_below oo3 hb6
         have pp6 := pp3.below hb6
         have rr6 : v6.heap[v3.heap.size]? = some (.cells #[.slice none 0 0] 67 (0, 0)) := by rw [hU6]; exact heap_alloc_new _ _
         have zr6 : V.heap.size ≤ v3.heap.size := Y3.size
         have nr6 : (Value.slice r2 m d2).ownBlock ≠ some (v3.heap.size) := fun e => by have h9 := (oo3.lt _ e).2; omega
         rw [← hU6]
         clear hU6
         refine wpAnyH_ready (rs := [10]) (by kernel_rfl) (by simp) ?_
         refine AllReadyH.cons (o := ?_) ?_ (fun K hK => ?_) AllReadyH.nil
         rotate_left
         ·(simp only [List.getElem?_toArray, List.getElem?_cons_zero, List.getElem?_cons_succ]; rfl)
         refine step_append_all rfl (.tmp 23) (.tmp 28) 25 rfl V.heap.size 3 j0 (.int .i64 0) 8 Try.underlying25 hj hy0 hy1 hy2 rfl (.slice r2 m d2) m (ys.map (.int .i64)) (by simp [Act.eval]) oo6 (some ⟨v2.heap.size, 0, none⟩) 2 2 [x, y] (by simp [Act.eval]) rfl pp6 (fun h => by cases h) (by unfold maxLen; omega) (by omega) Y6.size ?_
         intro r7 d7 v7 oo7 hg7 ht7
         have Y7 := Y6.grown hg7 Y6.size (fun j hj => (oo6.lt j hj).1)
         have zy7 := Y6.size
         have zg7 := hg7.size
         have rr7 := (hg7.block v3.heap.size (Array.getElem?_eq_some_iff.1 rr6).1 (fun e => nr6 e.symm)).trans rr6
         have nr7 : (Value.slice r7 (m + 2) d7).ownBlock ≠ some (v3.heap.size) := fun e => by
          rcases ht7 with h9 | h9
          ·exact nr6 (h9.symm.trans e)
          ·rw [h9] at e
           simp only [Option.some.injEq] at e
           have := (Array.getElem?_eq_some_iff.1 rr6).1
           omega
         refine hK.out _ _ ?_ (fun hHeld' => ?_)
         ·(try dsimp only)
          exact ⟨cell_later Y7 c0, cell_later Y7 c1, cell_later Y7 c2⟩
         clear hK K hHeld
         have hHeld := hHeld'
         clear hHeld'
         (try simp only [Act.put, List.setIfInBounds_toArray, List.set_cons_zero, List.set_cons_succ])
         refine wpAnyH_take (i := 11) (oi := ?_) (v := ?_) ?_ (by kernel_rfl) (by kernel_rfl) (by kernel_rfl) ?_ (Or.inl ⟨?_, ?_⟩) (by assumption) ?_
         rotate_left 2
         ·(simp only [List.getElem?_toArray, List.getElem?_cons_zero, List.getElem?_cons_succ]; rfl)
         ·exact fun _ _ _ h => h
         ·rfl
         ·(intro wS hSw; (try dsimp only at hSw); go_simp; (try with_reducible rfl))
         (try simp only [Act.put, List.setIfInBounds_toArray, List.set_cons_zero, List.set_cons_succ])
         have g0 : v7.cell? ⟨v3.heap.size, 0, none⟩ = some (.slice none 0 0) := by rw [cell_of_row _ _ 0 _ _ (0, 0) rr7]; rfl
         have g1 : v7.frozen? ⟨v3.heap.size, 0, none⟩ = false := frozen_of_row _ _ 0 _ _ rr7
         refine wpAnyH_ready (rs := [13]) (by kernel_rfl) (by simp) ?_
         refine AllReadyH.cons (o := ?_) ?_ (fun K hK => ?_) AllReadyH.nil
         rotate_left
         ·(simp only [List.getElem?_toArray, List.getElem?_cons_zero, List.getElem?_cons_succ]; rfl)
         go_simp
         (try go_wp2_with fail)
         refine hK.out _ _ ?_ (fun hHeld' => ?_)
         ·(try dsimp only)
          exact ⟨cell_later (Y7.setCell (p := ⟨v3.heap.size, 0, none⟩) zr6 _) c0, cell_later (Y7.setCell (p := ⟨v3.heap.size, 0, none⟩) zr6 _) c1, cell_later (Y7.setCell (p := ⟨v3.heap.size, 0, none⟩) zr6 _) c2⟩
         clear hK K hHeld
         have hHeld := hHeld'
         clear hHeld'
         (try simp only [Act.put, List.setIfInBounds_toArray, List.set_cons_zero, List.set_cons_succ])
         refine wpAnyH_done (by kernel_rfl) ?_ _
         (try go_wp2_with fail)
         go_meet
         case rel =>
          exact ⟨v3.heap.size, _, _, rfl, cell_set g0 _, owns_mono (oo7.kept (setCell_grown _ ⟨v3.heap.size, 0, none⟩ _) (.inr nr7)) zWV, zr6, lt_set g0 _, zWVb.trans ((Y7.setCell (p := ⟨v3.heap.size, 0, none⟩) zr6 _).mono zWV)⟩
        refine AllReadyH.cons (o := ?_) ?_ (fun K hK => ?_) AllReadyH.nil
        rotate_left
        ·(simp only [List.getElem?_toArray, List.getElem?_cons_zero, List.getElem?_cons_succ]; rfl)
        go_simp
        (try go_wp2_with fail)
        refine hK.out _ _ ?_ (fun hHeld' => ?_)
        ·(try dsimp only)
         exact ⟨cell_later (Y2.alloc Y2.size _) c0, cell_later (Y2.alloc Y2.size _) c1, cell_later (Y2.alloc Y2.size _) c2⟩
        clear hK K hHeld
        have hHeld := hHeld'
        clear hHeld'
        (try simp only [Act.put, List.setIfInBounds_toArray, List.set_cons_zero, List.set_cons_succ])
        obtain ⟨v8, hU8⟩ : ∃ u, u = v2.alloc (.cells #[.slice none 0 0] 67) := ⟨_, rfl⟩
        have hb8 : Below v2.heap.size v2 v8 := by rw [hU8]; exact (Below.refl _ _).alloc (Nat.le_refl _) _
        have zs8 : v2.heap.size < v8.heap.size := by rw [hU8]; simp
        have Y8 := Y2.trans (hb8.mono Y2.size)
        have zy8 := Y2.size
        have oo8 := owns_below oo2 hb8
        have rr8 : v8.heap[v2.heap.size]? = some (.cells #[.slice none 0 0] 67 (0, 0)) := by rw [hU8]; exact heap_alloc_new _ _
        have zr8 : V.heap.size ≤ v2.heap.size := Y2.size
        have nr8 : (Value.slice r2 m d2).ownBlock ≠ some (v2.heap.size) := fun e => by have h9 := (oo2.lt _ e).2; omega
        rw [← hU8]
        clear hU8
        refine wpAnyH_ready (rs := [9]) (by kernel_rfl) (by simp) ?_
        refine AllReadyH.cons (o := ?_) ?_ (fun K hK => ?_) AllReadyH.nil
        rotate_left
        ·(simp only [List.getElem?_toArray, List.getElem?_cons_zero, List.getElem?_cons_succ]; rfl)
        go_simp
        (try go_wp2_with fail)
        refine hK.out _ _ ?_ (fun hHeld' => ?_)
        ·(try dsimp only)
         exact ⟨cell_later (Y8.alloc Y8.size _) c0, cell_later (Y8.alloc Y8.size _) c1, cell_later (Y8.alloc Y8.size _) c2⟩
        clear hK K hHeld
        have hHeld := hHeld'
        clear hHeld'
        (try simp only [Act.put, List.setIfInBounds_toArray, List.set_cons_zero, List.set_cons_succ])
        obtain ⟨v9, hU9⟩ : ∃ u, u = v8.alloc (.cells #[.int .i64 x, .int .i64 y] 3) := ⟨_, rfl⟩
        have hb9 : Below v8.heap.size v8 v9 := by rw [hU9]; exact (Below.refl _ _).alloc (Nat.le_refl _) _
        have zs9 : v8.heap.size < v9.heap.size := by rw [hU9]; simp
        have Y9 := Y8.trans (hb9.mono Y8.size)
        have zy9 := Y8.size
        have oo9 := owns_below oo8 hb9
        have rr9 := (hb9.block v2.heap.size (Array.getElem?_eq_some_iff.1 rr8).1).trans rr8
        have pa9 : v9.cell? ⟨v8.heap.size, 0, none⟩ = some (.int .i64 x) := by rw [hU9]; exact pair0 v8 _ _ _
        have pb9 : v9.cell? ⟨v8.heap.size, 1, none⟩ = some (.int .i64 y) := by rw [hU9]; exact pair1 v8 _ _ _
        have pp9 : At v9 (some ⟨v8.heap.size, 0, none⟩) [x, y] := at_two pa9 pb9
        have np9 : (Value.slice r2 m d2).ownBlock ≠ some (v8.heap.size) := fun e => by have h9 := (oo8.lt _ e).2; omega
        rw [← hU9]
        clear hU9
        refine wpAnyH_ready (rs := [10]) (by kernel_rfl) (by simp) ?_
        refine AllReadyH.cons (o := ?_) ?_ (fun K hK => ?_) AllReadyH.nil
        rotate_left
        ·(simp only [List.getElem?_toArray, List.getElem?_cons_zero, List.getElem?_cons_succ]; rfl)
        refine step_append_all rfl (.tmp 23) (.tmp 28) 25 rfl V.heap.size 3 j0 (.int .i64 0) 8 Try.underlying25 hj hy0 hy1 hy2 rfl (.slice r2 m d2) m (ys.map (.int .i64)) (by simp [Act.eval]) oo9 (some ⟨v8.heap.size, 0, none⟩) 2 2 [x, y] (by simp [Act.eval]) rfl pp9 (fun h => by cases h) (by unfold maxLen; omega) (by omega) Y9.size ?_
        intro r10 d10 v10 oo10 hg10 ht10
        have Y10 := Y9.grown hg10 Y9.size (fun j hj => (oo9.lt j hj).1)
        have zy10 := Y9.size
        have zg10 := hg10.size
        have rr10 := (hg10.block v2.heap.size (Array.getElem?_eq_some_iff.1 rr9).1 (fun e => nr8 e.symm)).trans rr9
        have nr10 : (Value.slice r10 (m + 2) d10).ownBlock ≠ some (v2.heap.size) := fun e => by
         rcases ht10 with h9 | h9
         ·exact nr8 (h9.symm.trans e)
         ·rw [h9] at e
          simp only [Option.some.injEq] at e
          have := (Array.getElem?_eq_some_iff.1 rr9).1
          omega
        refine hK.out _ _ ?_ (fun hHeld' => ?_)
        ·(try dsimp only)
         exact ⟨cell_later Y10 c0, cell_later Y10 c1, cell_later Y10 c2⟩
        clear hK K hHeld
        have hHeld := hHeld'
        clear hHeld'
        (try simp only [Act.put, List.setIfInBounds_toArray, List.set_cons_zero, List.set_cons_succ])
        refine wpAnyH_take (i := 11) (oi := ?_) (v := ?_) ?_ (by kernel_rfl) (by kernel_rfl) (by kernel_rfl) ?_ (Or.inl ⟨?_, ?_⟩) (by assumption) ?_
        rotate_left 2
        ·(simp only [List.getElem?_toArray, List.getElem?_cons_zero, List.getElem?_cons_succ]; rfl)
        ·exact fun _ _ _ h => h
        ·rfl
        ·(intro wS hSw; (try dsimp only at hSw); go_simp; (try with_reducible rfl))
        (try simp only [Act.put, List.setIfInBounds_toArray, List.set_cons_zero, List.set_cons_succ])
        have g0 : v10.cell? ⟨v2.heap.size, 0, none⟩ = some (.slice none 0 0) := by rw [cell_of_row _ _ 0 _ _ (0, 0) rr10]; rfl
        have g1 : v10.frozen? ⟨v2.heap.size, 0, none⟩ = false := frozen_of_row _ _ 0 _ _ rr10
        refine wpAnyH_ready (rs := [13]) (by kernel_rfl) (by simp) ?_
        refine AllReadyH.cons (o := ?_) ?_ (fun K hK => ?_) AllReadyH.nil
        rotate_left
        ·(simp only [List.getElem?_toArray, List.getElem?_cons_zero, List.getElem?_cons_succ]; rfl)
        go_simp
        (try go_wp2_with fail)
        refine hK.out _ _ ?_ (fun hHeld' => ?_)
        ·(try dsimp only)
         exact ⟨cell_later (Y10.setCell (p := ⟨v2.heap.size, 0, none⟩) zr8 _) c0, cell_later (Y10.setCell (p := ⟨v2.heap.size, 0, none⟩) zr8 _) c1, cell_later (Y10.setCell (p := ⟨v2.heap.size, 0, none⟩) zr8 _) c2⟩
        clear hK K hHeld
        have hHeld := hHeld'
        clear hHeld'
        (try simp only [Act.put, List.setIfInBounds_toArray, List.set_cons_zero, List.set_cons_succ])
        refine wpAnyH_done (by kernel_rfl) ?_ _
        (try go_wp2_with fail)
        go_meet
        case rel =>
         exact ⟨v2.heap.size, _, _, rfl, cell_set g0 _, owns_mono (oo10.kept (setCell_grown _ ⟨v2.heap.size, 0, none⟩ _) (.inr nr10)) zWV, zr8, lt_set g0 _, zWVb.trans ((Y10.setCell (p := ⟨v2.heap.size, 0, none⟩) zr8 _).mono zWV)⟩
       refine AllReadyH.cons (o := ?_) ?_ (fun K hK => ?_) ?_
       rotate_left
       ·(simp only [List.getElem?_toArray, List.getElem?_cons_zero, List.getElem?_cons_succ]; rfl)
       ·go_simp
        (try go_wp2_with fail)
        refine hK.out _ _ ?_ (fun hHeld' => ?_)
        ·(try dsimp only)
         exact ⟨cell_later (Y1.alloc Y1.size _) c0, cell_later (Y1.alloc Y1.size _) c1, cell_later (Y1.alloc Y1.size _) c2⟩
        clear hK K hHeld
        have hHeld := hHeld'
        clear hHeld'
        (try simp only [Act.put, List.setIfInBounds_toArray, List.set_cons_zero, List.set_cons_succ])
        obtain ⟨v11, hU11⟩ : ∃ u, u = v1.alloc (.cells #[.int .i64 x, .int .i64 y] 3) := ⟨_, rfl⟩
        have hb11 : Below v1.heap.size v1 v11 := by rw [hU11]; exact (Below.refl _ _).alloc (Nat.le_refl _) _
        have zs11 : v1.heap.size < v11.heap.size := by rw [hU11]; simp
        have Y11 := Y1.trans (hb11.mono Y1.size)
        have zy11 := Y1.size
        have oo11 := owns_below oo1 hb11
        have pa11 : v11.cell? ⟨v1.heap.size, 0, none⟩ = some (.int .i64 x) := by rw [hU11]; exact pair0 v1 _ _ _
        have pb11 : v11.cell? ⟨v1.heap.size, 1, none⟩ = some (.int .i64 y) := by rw [hU11]; exact pair1 v1 _ _ _
        have pp11 : At v11 (some ⟨v1.heap.size, 0, none⟩) [x, y] := at_two pa11 pb11
        have np11 : (Value.slice (some ⟨v0.heap.size, 0, none⟩) 0 0).ownBlock ≠ some (v1.heap.size) := fun e => by have h9 := (oo1.lt _ e).2; omega
        rw [← hU11]
        clear hU11
        refine wpAnyH_ready (rs := [4, 12]) (by kernel_rfl) (by simp) ?_
        refine AllReadyH.cons (o := ?_) ?_ (fun K hK => ?_) ?_
        rotate_left
        ·(simp only [List.getElem?_toArray, List.getElem?_cons_zero, List.getElem?_cons_succ]; rfl)
        ·refine step_append_all rfl (.tmp 19) (.tmp 22) 25 rfl V.heap.size 3 j0 (.int .i64 0) 8 Try.underlying25 hj hy0 hy1 hy2 rfl (.slice (some ⟨v0.heap.size, 0, none⟩) 0 0) 0 [] (by simp [Act.eval]) oo11 q m dd ys (by simp [Act.eval]) HM.out (HATV.out.below Y11) HNIL.out (by unfold maxLen; omega) (by omega) Y11.size ?_
         intro r12 d12 v12 oo12 hg12 ht12
         simp only [Nat.zero_add, List.nil_append] at oo12 ht12 ⊢
         have Y12 := Y11.grown hg12 Y11.size (fun j hj => (oo11.lt j hj).1)
         have zy12 := Y11.size
         have zg12 := hg12.size
         have pp12 := at_far pp11 hg12 np11
         have np12 : (Value.slice r12 m d12).ownBlock ≠ some (v1.heap.size) := fun e => by
          rcases ht12 with h9 | h9
          ·exact np11 (h9.symm.trans e)
          ·rw [h9] at e
           simp only [Option.some.injEq] at e
           have := World.block_lt_of_cell? _ _ (at_cell0 pp11)
           simp only at this
           omega
         refine hK.out _ _ ?_ (fun hHeld' => ?_)
         ·(try dsimp only)
          exact ⟨cell_later Y12 c0, cell_later Y12 c1, cell_later Y12 c2⟩
         clear hK K hHeld
         have hHeld := hHeld'
         clear hHeld'
         (try simp only [Act.put, List.setIfInBounds_toArray, List.set_cons_zero, List.set_cons_succ])
         refine wpAnyH_ready (rs := [10, 12]) (by kernel_rfl) (by simp) ?_
         refine AllReadyH.cons (o := ?_) ?_ (fun K hK => ?_) ?_
         rotate_left
         ·(simp only [List.getElem?_toArray, List.getElem?_cons_zero, List.getElem?_cons_succ]; rfl)
         ·refine step_append_all rfl (.tmp 23) (.tmp 28) 25 rfl V.heap.size 3 j0 (.int .i64 0) 8 Try.underlying25 hj hy0 hy1 hy2 rfl (.slice r12 m d12) m (ys.map (.int .i64)) (by simp [Act.eval]) oo12 (some ⟨v1.heap.size, 0, none⟩) 2 2 [x, y] (by simp [Act.eval]) rfl pp12 (fun h => by cases h) (by unfold maxLen; omega) (by omega) Y12.size ?_
          intro r13 d13 v13 oo13 hg13 ht13
          have Y13 := Y12.grown hg13 Y12.size (fun j hj => (oo12.lt j hj).1)
          have zy13 := Y12.size
          have zg13 := hg13.size
          refine hK.out _ _ ?_ (fun hHeld' => ?_)
          ·(try dsimp only)
           exact ⟨cell_later Y13 c0, cell_later Y13 c1, cell_later Y13 c2⟩
          clear hK K hHeld
          have hHeld := hHeld'
          clear hHeld'
          (try simp only [Act.put, List.setIfInBounds_toArray, List.set_cons_zero, List.set_cons_succ])
          refine wpAnyH_take (i := 11) (oi := ?_) (v := ?_) ?_ (by kernel_rfl) (by kernel_rfl) (by kernel_rfl) ?_ (Or.inl ⟨?_, ?_⟩) (by assumption) ?_
          rotate_left 2
          ·(simp only [List.getElem?_toArray, List.getElem?_cons_zero, List.getElem?_cons_succ]; rfl)
          ·exact fun _ _ _ h => h
          ·rfl
          ·(intro wS hSw; (try dsimp only at hSw); go_simp; (try with_reducible rfl))
          (try simp only [Act.put, List.setIfInBounds_toArray, List.set_cons_zero, List.set_cons_succ])
          refine wpAnyH_ready (rs := [12]) (by kernel_rfl) (by simp) ?_
          refine AllReadyH.cons (o := ?_) ?_ (fun K hK => ?_) AllReadyH.nil
          rotate_left
          ·(simp only [List.getElem?_toArray, List.getElem?_cons_zero, List.getElem?_cons_succ]; rfl)
          go_simp
          (try go_wp2_with fail)
          refine hK.out _ _ ?_ (fun hHeld' => ?_)
          ·(try dsimp only)
           exact ⟨cell_later (Y13.alloc Y13.size _) c0, cell_later (Y13.alloc Y13.size _) c1, cell_later (Y13.alloc Y13.size _) c2⟩
          clear hK K hHeld
          have hHeld := hHeld'
          clear hHeld'
          (try simp only [Act.put, List.setIfInBounds_toArray, List.set_cons_zero, List.set_cons_succ])
          obtain ⟨v14, hU14⟩ : ∃ u, u = v13.alloc (.cells #[.slice none 0 0] 67) := ⟨_, rfl⟩
          have hb14 : Below v13.heap.size v13 v14 := by rw [hU14]; exact (Below.refl _ _).alloc (Nat.le_refl _) _
          have zs14 : v13.heap.size < v14.heap.size := by rw [hU14]; simp
          have Y14 := Y13.trans (hb14.mono Y13.size)
          have zy14 := Y13.size
          have oo14 := owns_below oo13 hb14
          have rr14 : v14.heap[v13.heap.size]? = some (.cells #[.slice none 0 0] 67 (0, 0)) := by rw [hU14]; exact heap_alloc_new _ _
          have zr14 : V.heap.size ≤ v13.heap.size := Y13.size
          have nr14 : (Value.slice r13 (m + 2) d13).ownBlock ≠ some (v13.heap.size) := fun e => by have h9 := (oo13.lt _ e).2; omega
          rw [← hU14]
          clear hU14
          have g0 : v14.cell? ⟨v13.heap.size, 0, none⟩ = some (.slice none 0 0) := by rw [cell_of_row _ _ 0 _ _ (0, 0) rr14]; rfl
          have g1 : v14.frozen? ⟨v13.heap.size, 0, none⟩ = false := frozen_of_row _ _ 0 _ _ rr14
          refine wpAnyH_ready (rs := [13]) (by kernel_rfl) (by simp) ?_
          refine AllReadyH.cons (o := ?_) ?_ (fun K hK => ?_) AllReadyH.nil
          rotate_left
          ·(simp only [List.getElem?_toArray, List.getElem?_cons_zero, List.getElem?_cons_succ]; rfl)
          go_simp
          (try go_wp2_with fail)
          refine hK.out _ _ ?_ (fun hHeld' => ?_)
          ·(try dsimp only)
           exact ⟨cell_later (Y14.setCell (p := ⟨v13.heap.size, 0, none⟩) zr14 _) c0, cell_later (Y14.setCell (p := ⟨v13.heap.size, 0, none⟩) zr14 _) c1, cell_later (Y14.setCell (p := ⟨v13.heap.size, 0, none⟩) zr14 _) c2⟩
          clear hK K hHeld
          have hHeld := hHeld'
          clear hHeld'
          (try simp only [Act.put, List.setIfInBounds_toArray, List.set_cons_zero, List.set_cons_succ])
          refine wpAnyH_done (by kernel_rfl) ?_ _
          (try go_wp2_with fail)
          go_meet
          case rel =>
           exact ⟨v13.heap.size, _, _, rfl, cell_set g0 _, owns_mono (oo14.kept (setCell_grown _ ⟨v13.heap.size, 0, none⟩ _) (.inr nr14)) zWV, zr14, lt_set g0 _, zWVb.trans ((Y14.setCell (p := ⟨v13.heap.size, 0, none⟩) zr14 _).mono zWV)⟩
         refine AllReadyH.cons (o := ?_) ?_ (fun K hK => ?_) AllReadyH.nil
         rotate_left
         ·(simp only [List.getElem?_toArray, List.getElem?_cons_zero, List.getElem?_cons_succ]; rfl)
         go_simp
         (try go_wp2_with fail)
         refine hK.out _ _ ?_ (fun hHeld' => ?_)
         ·(try dsimp only)
          exact ⟨cell_later (Y12.alloc Y12.size _) c0, cell_later (Y12.alloc Y12.size _) c1, cell_later (Y12.alloc Y12.size _) c2⟩
         clear hK K hHeld
         have hHeld := hHeld'
         clear hHeld'
         (try simp only [Act.put, List.setIfInBounds_toArray, List.set_cons_zero, List.set_cons_succ])
         obtain ⟨v15, hU15⟩ : ∃ u, u = v12.alloc (.cells #[.slice none 0 0] 67) := ⟨_, rfl⟩
         have hb15 : Below v12.heap.size v12 v15 := by rw [hU15]; exact (Below.refl _ _).alloc (Nat.le_refl _) _
         have zs15 : v12.heap.size < v15.heap.size := by rw [hU15]; simp
         have Y15 := Y12.trans (hb15.mono Y12.size)
         have zy15 := Y12.size
         have oo15 := owns_below oo12 hb15
         have pp15 := pp12.below hb15
         have rr15 : v15.heap[v12.heap.size]? = some (.cells #[.slice none 0 0] 67 (0, 0)) := by rw [hU15]; exact heap_alloc_new _ _
         have zr15 : V.heap.size ≤ v12.heap.size := Y12.size
         have nr15 : (Value.slice r12 m d12).ownBlock ≠ some (v12.heap.size) := fun e => by have h9 := (oo12.lt _ e).2; omega
         rw [← hU15]
         clear hU15
         refine wpAnyH_ready (rs := [10]) (by kernel_rfl) (by simp) ?_
         refine AllReadyH.cons (o := ?_) ?_ (fun K hK => ?_) AllReadyH.nil
         rotate_left
         ·(simp only [List.getElem?_toArray, List.getElem?_cons_zero, List.getElem?_cons_succ]; rfl)
         refine step_append_all rfl (.tmp 23) (.tmp 28) 25 rfl V.heap.size 3 j0 (.int .i64 0) 8 Try.underlying25 hj hy0 hy1 hy2 rfl (.slice r12 m d12) m (ys.map (.int .i64)) (by simp [Act.eval]) oo15 (some ⟨v1.heap.size, 0, none⟩) 2 2 [x, y] (by simp [Act.eval]) rfl pp15 (fun h => by cases h) (by unfold maxLen; omega) (by omega) Y15.size ?_
         intro r16 d16 v16 oo16 hg16 ht16
         have Y16 := Y15.grown hg16 Y15.size (fun j hj => (oo15.lt j hj).1)
         have zy16 := Y15.size
         have zg16 := hg16.size
         have rr16 := (hg16.block v12.heap.size (Array.getElem?_eq_some_iff.1 rr15).1 (fun e => nr15 e.symm)).trans rr15
         have nr16 : (Value.slice r16 (m + 2) d16).ownBlock ≠ some (v12.heap.size) := fun e => by
          rcases ht16 with h9 | h9
          ·exact nr15 (h9.symm.trans e)
          ·rw [h9] at e
           simp only [Option.some.injEq] at e
           have := (Array.getElem?_eq_some_iff.1 rr15).1
           omega
         refine hK.out _ _ ?_ (fun hHeld' => ?_)
         ·(try dsimp only)
          exact ⟨cell_later Y16 c0, cell_later Y16 c1, cell_later Y16 c2⟩
         clear hK K hHeld
         have hHeld := hHeld'
         clear hHeld'
         (try simp only [Act.put, List.setIfInBounds_toArray, List.set_cons_zero, List.set_cons_succ])
         refine wpAnyH_take (i := 11) (oi := ?_) (v := ?_) ?_ (by kernel_rfl) (by kernel_rfl) (by kernel_rfl) ?_ (Or.inl ⟨?_, ?_⟩) (by assumption) ?_
         rotate_left 2
         ·(simp only [List.getElem?_toArray, List.getElem?_cons_zero, List.getElem?_cons_succ]; rfl)
         ·exact fun _ _ _ h => h
         ·rfl
         ·(intro wS hSw; (try dsimp only at hSw); go_simp; (try with_reducible rfl))
         (try simp only [Act.put, List.setIfInBounds_toArray, List.set_cons_zero, List.set_cons_succ])
         have g0 : v16.cell? ⟨v12.heap.size, 0, none⟩ = some (.slice none 0 0) := by rw [cell_of_row _ _ 0 _ _ (0, 0) rr16]; rfl
         have g1 : v16.frozen? ⟨v12.heap.size, 0, none⟩ = false := frozen_of_row _ _ 0 _ _ rr16
         refine wpAnyH_ready (rs := [13]) (by kernel_rfl) (by simp) ?_
         refine AllReadyH.cons (o := ?_) ?_ (fun K hK => ?_) AllReadyH.nil
         rotate_left
         ·(simp only [List.getElem?_toArray, List.getElem?_cons_zero, List.getElem?_cons_succ]; rfl)
         go_simp
         (try go_wp2_with fail)
         refine hK.out _ _ ?_ (fun hHeld' => ?_)
         ·(try dsimp only)
          exact ⟨cell_later (Y16.setCell (p := ⟨v12.heap.size, 0, none⟩) zr15 _) c0, cell_later (Y16.setCell (p := ⟨v12.heap.size, 0, none⟩) zr15 _) c1, cell_later (Y16.setCell (p := ⟨v12.heap.size, 0, none⟩) zr15 _) c2⟩
         clear hK K hHeld
         have hHeld := hHeld'
         clear hHeld'
         (try simp only [Act.put, List.setIfInBounds_toArray, List.set_cons_zero, List.set_cons_succ])
         refine wpAnyH_done (by kernel_rfl) ?_ _
         (try go_wp2_with fail)
         go_meet
         case rel =>
          exact ⟨v12.heap.size, _, _, rfl, cell_set g0 _, owns_mono (oo16.kept (setCell_grown _ ⟨v12.heap.size, 0, none⟩ _) (.inr nr16)) zWV, zr15, lt_set g0 _, zWVb.trans ((Y16.setCell (p := ⟨v12.heap.size, 0, none⟩) zr15 _).mono zWV)⟩
        refine AllReadyH.cons (o := ?_) ?_ (fun K hK => ?_) AllReadyH.nil
        rotate_left
        ·(simp only [List.getElem?_toArray, List.getElem?_cons_zero, List.getElem?_cons_succ]; rfl)
        go_simp
        (try go_wp2_with fail)
        refine hK.out _ _ ?_ (fun hHeld' => ?_)
        ·(try dsimp only)
         exact ⟨cell_later (Y11.alloc Y11.size _) c0, cell_later (Y11.alloc Y11.size _) c1, cell_later (Y11.alloc Y11.size _) c2⟩
        clear hK K hHeld
        have hHeld := hHeld'
        clear hHeld'
        (try simp only [Act.put, List.setIfInBounds_toArray, List.set_cons_zero, List.set_cons_succ])
        obtain ⟨v17, hU17⟩ : ∃ u, u = v11.alloc (.cells #[.slice none 0 0] 67) := ⟨_, rfl⟩
        have hb17 : Below v11.heap.size v11 v17 := by rw [hU17]; exact (Below.refl _ _).alloc (Nat.le_refl _) _
        have zs17 : v11.heap.size < v17.heap.size := by rw [hU17]; simp
        have Y17 := Y11.trans (hb17.mono Y11.size)
        have zy17 := Y11.size
        have oo17 := owns_below oo11 hb17
        have pp17 := pp11.below hb17
        have rr17 : v17.heap[v11.heap.size]? = some (.cells #[.slice none 0 0] 67 (0, 0)) := by rw [hU17]; exact heap_alloc_new _ _
        have zr17 : V.heap.size ≤ v11.heap.size := Y11.size
        have nr17 : (Value.slice (some ⟨v0.heap.size, 0, none⟩) 0 0).ownBlock ≠ some (v11.heap.size) := fun e => by have h9 := (oo11.lt _ e).2; omega
        rw [← hU17]
        clear hU17
        refine wpAnyH_ready (rs := [4]) (by kernel_rfl) (by simp) ?_
        refine AllReadyH.cons (o := ?_) ?_ (fun K hK => ?_) AllReadyH.nil
        rotate_left
        ·(simp only [List.getElem?_toArray, List.getElem?_cons_zero, List.getElem?_cons_succ]; rfl)
        refine step_append_all rfl (.tmp 19) (.tmp 22) 25 rfl V.heap.size 3 j0 (.int .i64 0) 8 Try.underlying25 hj hy0 hy1 hy2 rfl (.slice (some ⟨v0.heap.size, 0, none⟩) 0 0) 0 [] (by simp [Act.eval]) oo17 q m dd ys (by simp [Act.eval]) HM.out (HATV.out.below Y17) HNIL.out (by unfold maxLen; omega) (by omega) Y17.size ?_
        intro r18 d18 v18 oo18 hg18 ht18
        simp only [Nat.zero_add, List.nil_append] at oo18 ht18 ⊢
        have Y18 := Y17.grown hg18 Y17.size (fun j hj => (oo17.lt j hj).1)
        have zy18 := Y17.size
        have zg18 := hg18.size
        have pp18 := at_far pp17 hg18 np11
        have np18 : (Value.slice r18 m d18).ownBlock ≠ some (v1.heap.size) := fun e => by
         rcases ht18 with h9 | h9
         ·exact np11 (h9.symm.trans e)
         ·rw [h9] at e
          simp only [Option.some.injEq] at e
          have := World.block_lt_of_cell? _ _ (at_cell0 pp17)
          simp only at this
          omega
        have rr18 := (hg18.block v11.heap.size (Array.getElem?_eq_some_iff.1 rr17).1 (fun e => nr17 e.symm)).trans rr17
        have nr18 : (Value.slice r18 m d18).ownBlock ≠ some (v11.heap.size) := fun e => by
         rcases ht18 with h9 | h9
         ·exact nr17 (h9.symm.trans e)
         ·rw [h9] at e
          simp only [Option.some.injEq] at e
          have := (Array.getElem?_eq_some_iff.1 rr17).1
          omega
        refine hK.out _ _ ?_ (fun hHeld' => ?_)
        ·(try dsimp only)
         exact ⟨cell_later Y18 c0, cell_later Y18 c1, cell_later Y18 c2⟩
        clear hK K hHeld
        have hHeld := hHeld'
        clear hHeld'
        (try simp only [Act.put, List.setIfInBounds_toArray, List.set_cons_zero, List.set_cons_succ])
        refine wpAnyH_ready (rs := [10]) (by kernel_rfl) (by simp) ?_
        refine AllReadyH.cons (o := ?_) ?_ (fun K hK => ?_) AllReadyH.nil
        rotate_left
        ·(simp only [List.getElem?_toArray, List.getElem?_cons_zero, List.getElem?_cons_succ]; rfl)
        refine step_append_all rfl (.tmp 23) (.tmp 28) 25 rfl V.heap.size 3 j0 (.int .i64 0) 8 Try.underlying25 hj hy0 hy1 hy2 rfl (.slice r18 m d18) m (ys.map (.int .i64)) (by simp [Act.eval]) oo18 (some ⟨v1.heap.size, 0, none⟩) 2 2 [x, y] (by simp [Act.eval]) rfl pp18 (fun h => by cases h) (by unfold maxLen; omega) (by omega) Y18.size ?_
        intro r19 d19 v19 oo19 hg19 ht19
        have Y19 := Y18.grown hg19 Y18.size (fun j hj => (oo18.lt j hj).1)
        have zy19 := Y18.size
        have zg19 := hg19.size
        have rr19 := (hg19.block v11.heap.size (Array.getElem?_eq_some_iff.1 rr18).1 (fun e => nr18 e.symm)).trans rr18
        have nr19 : (Value.slice r19 (m + 2) d19).ownBlock ≠ some (v11.heap.size) := fun e => by
         rcases ht19 with h9 | h9
         ·exact nr18 (h9.symm.trans e)
         ·rw [h9] at e
          simp only [Option.some.injEq] at e
          have := (Array.getElem?_eq_some_iff.1 rr18).1
          omega
        refine hK.out _ _ ?_ (fun hHeld' => ?_)
        ·(try dsimp only)
         exact ⟨cell_later Y19 c0, cell_later Y19 c1, cell_later Y19 c2⟩
        clear hK K hHeld
        have hHeld := hHeld'
        clear hHeld'
        (try simp only [Act.put, List.setIfInBounds_toArray, List.set_cons_zero, List.set_cons_succ])
        refine wpAnyH_take (i := 11) (oi := ?_) (v := ?_) ?_ (by kernel_rfl) (by kernel_rfl) (by kernel_rfl) ?_ (Or.inl ⟨?_, ?_⟩) (by assumption) ?_
        rotate_left 2
        ·(simp only [List.getElem?_toArray, List.getElem?_cons_zero, List.getElem?_cons_succ]; rfl)
        ·exact fun _ _ _ h => h
        ·rfl
        ·(intro wS hSw; (try dsimp only at hSw); go_simp; (try with_reducible rfl))
        (try simp only [Act.put, List.setIfInBounds_toArray, List.set_cons_zero, List.set_cons_succ])
        have g0 : v19.cell? ⟨v11.heap.size, 0, none⟩ = some (.slice none 0 0) := by rw [cell_of_row _ _ 0 _ _ (0, 0) rr19]; rfl
        have g1 : v19.frozen? ⟨v11.heap.size, 0, none⟩ = false := frozen_of_row _ _ 0 _ _ rr19
        refine wpAnyH_ready (rs := [13]) (by kernel_rfl) (by simp) ?_
        refine AllReadyH.cons (o := ?_) ?_ (fun K hK => ?_) AllReadyH.nil
        rotate_left
        ·(simp only [List.getElem?_toArray, List.getElem?_cons_zero, List.getElem?_cons_succ]; rfl)
        go_simp
        (try go_wp2_with fail)
        refine hK.out _ _ ?_ (fun hHeld' => ?_)
        ·(try dsimp only)
         exact ⟨cell_later (Y19.setCell (p := ⟨v11.heap.size, 0, none⟩) zr17 _) c0, cell_later (Y19.setCell (p := ⟨v11.heap.size, 0, none⟩) zr17 _) c1, cell_later (Y19.setCell (p := ⟨v11.heap.size, 0, none⟩) zr17 _) c2⟩
        clear hK K hHeld
        have hHeld := hHeld'
        clear hHeld'
        (try simp only [Act.put, List.setIfInBounds_toArray, List.set_cons_zero, List.set_cons_succ])
        refine wpAnyH_done (by kernel_rfl) ?_ _
        (try go_wp2_with fail)
        go_meet
        case rel =>
         exact ⟨v11.heap.size, _, _, rfl, cell_set g0 _, owns_mono (oo19.kept (setCell_grown _ ⟨v11.heap.size, 0, none⟩ _) (.inr nr19)) zWV, zr17, lt_set g0 _, zWVb.trans ((Y19.setCell (p := ⟨v11.heap.size, 0, none⟩) zr17 _).mono zWV)⟩
       refine AllReadyH.cons (o := ?_) ?_ (fun K hK => ?_) AllReadyH.nil
       rotate_left
       ·(simp only [List.getElem?_toArray, List.getElem?_cons_zero, List.getElem?_cons_succ]; rfl)
       go_simp
       (try go_wp2_with fail)
       refine hK.out _ _ ?_ (fun hHeld' => ?_)
       ·(try dsimp only)
        exact ⟨cell_later (Y1.alloc Y1.size _) c0, cell_later (Y1.alloc Y1.size _) c1, cell_later (Y1.alloc Y1.size _) c2⟩
       clear hK K hHeld
       have hHeld := hHeld'
       clear hHeld'
       (try simp only [Act.put, List.setIfInBounds_toArray, List.set_cons_zero, List.set_cons_succ])
       obtain ⟨v20, hU20⟩ : ∃ u, u = v1.alloc (.cells #[.slice none 0 0] 67) := ⟨_, rfl⟩
       have hb20 : Below v1.heap.size v1 v20 := by rw [hU20]; exact (Below.refl _ _).alloc (Nat.le_refl _) _
       have zs20 : v1.heap.size < v20.heap.size := by rw [hU20]; simp
       have Y20 := Y1.trans (hb20.mono Y1.size)
       have zy20 := Y1.size
       have oo20 := owns_below oo1 hb20
       have rr20 : v20.heap[v1.heap.size]? = some (.cells #[.slice none 0 0] 67 (0, 0)) := by rw [hU20]; exact heap_alloc_new _ _
       have zr20 : V.heap.size ≤ v1.heap.size := Y1.size
       have nr20 : (Value.slice (some ⟨v0.heap.size, 0, none⟩) 0 0).ownBlock ≠ some (v1.heap.size) := fun e => by have h9 := (oo1.lt _ e).2; omega
       rw [← hU20]
       clear hU20
       refine wpAnyH_ready (rs := [4, 9]) (by kernel_rfl) (by simp) ?_
       refine AllReadyH.cons (o := ?_) ?_ (fun K hK => ?_) ?_
       rotate_left
       ·(simp only [List.getElem?_toArray, List.getElem?_cons_zero, List.getElem?_cons_succ]; rfl)
       ·refine step_append_all rfl (.tmp 19) (.tmp 22) 25 rfl V.heap.size 3 j0 (.int .i64 0) 8 Try.underlying25 hj hy0 hy1 hy2 rfl (.slice (some ⟨v0.heap.size, 0, none⟩) 0 0) 0 [] (by simp [Act.eval]) oo20 q m dd ys (by simp [Act.eval]) HM.out (HATV.out.below Y20) HNIL.out (by unfold maxLen; omega) (by omega) Y20.size ?_
        intro r21 d21 v21 oo21 hg21 ht21
        simp only [Nat.zero_add, List.nil_append] at oo21 ht21 ⊢
        have Y21 := Y20.grown hg21 Y20.size (fun j hj => (oo20.lt j hj).1)
        have zy21 := Y20.size
        have zg21 := hg21.size
        have rr21 := (hg21.block v1.heap.size (Array.getElem?_eq_some_iff.1 rr20).1 (fun e => nr20 e.symm)).trans rr20
        have nr21 : (Value.slice r21 m d21).ownBlock ≠ some (v1.heap.size) := fun e => by
         rcases ht21 with h9 | h9
         ·exact nr20 (h9.symm.trans e)
         ·rw [h9] at e
          simp only [Option.some.injEq] at e
          have := (Array.getElem?_eq_some_iff.1 rr20).1
          omega
        refine hK.out _ _ ?_ (fun hHeld' => ?_)
        ·(try dsimp only)
         exact ⟨cell_later Y21 c0, cell_later Y21 c1, cell_later Y21 c2⟩
        clear hK K hHeld
        have hHeld := hHeld'
        clear hHeld'
        (try simp only [Act.put, List.setIfInBounds_toArray, List.set_cons_zero, List.set_cons_succ])
        refine wpAnyH_ready (rs := [9]) (by kernel_rfl) (by simp) ?_
        refine AllReadyH.cons (o := ?_) ?_ (fun K hK => ?_) AllReadyH.nil
        rotate_left
        ·(simp only [List.getElem?_toArray, List.getElem?_cons_zero, List.getElem?_cons_succ]; rfl)
        go_simp
        (try go_wp2_with fail)
        refine hK.out _ _ ?_ (fun hHeld' => ?_)
        ·(try dsimp only)
         exact ⟨cell_later (Y21.alloc Y21.size _) c0, cell_later (Y21.alloc Y21.size _) c1, cell_later (Y21.alloc Y21.size _) c2⟩
        clear hK K hHeld
        have hHeld := hHeld'
        clear hHeld'
        (try simp only [Act.put, List.setIfInBounds_toArray, List.set_cons_zero, List.set_cons_succ])
        obtain ⟨v22, hU22⟩ : ∃ u, u = v21.alloc (.cells #[.int .i64 x, .int .i64 y] 3) := ⟨_, rfl⟩
        have hb22 : Below v21.heap.size v21 v22 := by rw [hU22]; exact (Below.refl _ _).alloc (Nat.le_refl _) _
        have zs22 : v21.heap.size < v22.heap.size := by rw [hU22]; simp
        have Y22 := Y21.trans (hb22.mono Y21.size)
        have zy22 := Y21.size
        have oo22 := owns_below oo21 hb22
        have rr22 := (hb22.block v1.heap.size (Array.getElem?_eq_some_iff.1 rr21).1).trans rr21
        have pa22 : v22.cell? ⟨v21.heap.size, 0, none⟩ = some (.int .i64 x) := by rw [hU22]; exact pair0 v21 _ _ _
        have pb22 : v22.cell? ⟨v21.heap.size, 1, none⟩ = some (.int .i64 y) := by rw [hU22]; exact pair1 v21 _ _ _
        have pp22 : At v22 (some ⟨v21.heap.size, 0, none⟩) [x, y] := at_two pa22 pb22
        have np22 : (Value.slice r21 m d21).ownBlock ≠ some (v21.heap.size) := fun e => by have h9 := (oo21.lt _ e).2; omega
        rw [← hU22]
        clear hU22
        refine wpAnyH_ready (rs := [10]) (by kernel_rfl) (by simp) ?_
        refine AllReadyH.cons (o := ?_) ?_ (fun K hK => ?_) AllReadyH.nil
        rotate_left
        ·(simp only [List.getElem?_toArray, List.getElem?_cons_zero, List.getElem?_cons_succ]; rfl)
        refine step_append_all rfl (.tmp 23) (.tmp 28) 25 rfl V.heap.size 3 j0 (.int .i64 0) 8 Try.underlying25 hj hy0 hy1 hy2 rfl (.slice r21 m d21) m (ys.map (.int .i64)) (by simp [Act.eval]) oo22 (some ⟨v21.heap.size, 0, none⟩) 2 2 [x, y] (by simp [Act.eval]) rfl pp22 (fun h => by cases h) (by unfold maxLen; omega) (by omega) Y22.size ?_
        intro r23 d23 v23 oo23 hg23 ht23
        have Y23 := Y22.grown hg23 Y22.size (fun j hj => (oo22.lt j hj).1)
        have zy23 := Y22.size
        have zg23 := hg23.size
        have rr23 := (hg23.block v1.heap.size (Array.getElem?_eq_some_iff.1 rr22).1 (fun e => nr21 e.symm)).trans rr22
        have nr23 : (Value.slice r23 (m + 2) d23).ownBlock ≠ some (v1.heap.size) := fun e => by
         rcases ht23 with h9 | h9
         ·exact nr21 (h9.symm.trans e)
         ·rw [h9] at e
          simp only [Option.some.injEq] at e
          have := (Array.getElem?_eq_some_iff.1 rr22).1
          omega
        refine hK.out _ _ ?_ (fun hHeld' => ?_)
        ·(try dsimp only)
         exact ⟨cell_later Y23 c0, cell_later Y23 c1, cell_later Y23 c2⟩
        clear hK K hHeld
        have hHeld := hHeld'
        clear hHeld'
        (try simp only [Act.put, List.setIfInBounds_toArray, List.set_cons_zero, List.set_cons_succ])
        refine wpAnyH_take (i := 11) (oi := ?_) (v := ?_) ?_ (by kernel_rfl) (by kernel_rfl) (by kernel_rfl) ?_ (Or.inl ⟨?_, ?_⟩) (by assumption) ?_
        rotate_left 2
        ·(simp only [List.getElem?_toArray, List.getElem?_cons_zero, List.getElem?_cons_succ]; rfl)
        ·exact fun _ _ _ h => h
        ·rfl
        ·(intro wS hSw; (try dsimp only at hSw); go_simp; (try with_reducible rfl))
        (try simp only [Act.put, List.setIfInBounds_toArray, List.set_cons_zero, List.set_cons_succ])
        have g0 : v23.cell? ⟨v1.heap.size, 0, none⟩ = some (.slice none 0 0) := by rw [cell_of_row _ _ 0 _ _ (0, 0) rr23]; rfl
        have g1 : v23.frozen? ⟨v1.heap.size, 0, none⟩ = false := frozen_of_row _ _ 0 _ _ rr23
        refine wpAnyH_ready (rs := [13]) (by kernel_rfl) (by simp) ?_
        refine AllReadyH.cons (o := ?_) ?_ (fun K hK => ?_) AllReadyH.nil
        rotate_left
        ·(simp only [List.getElem?_toArray, List.getElem?_cons_zero, List.getElem?_cons_succ]; rfl)
        go_simp
        (try go_wp2_with fail)
        refine hK.out _ _ ?_ (fun hHeld' => ?_)
        ·(try dsimp only)
         exact ⟨cell_later (Y23.setCell (p := ⟨v1.heap.size, 0, none⟩) zr20 _) c0, cell_later (Y23.setCell (p := ⟨v1.heap.size, 0, none⟩) zr20 _) c1, cell_later (Y23.setCell (p := ⟨v1.heap.size, 0, none⟩) zr20 _) c2⟩
        clear hK K hHeld
        have hHeld := hHeld'
        clear hHeld'
        (try simp only [Act.put, List.setIfInBounds_toArray, List.set_cons_zero, List.set_cons_succ])
        refine wpAnyH_done (by kernel_rfl) ?_ _
        (try go_wp2_with fail)
        go_meet
        case rel =>
         exact ⟨v1.heap.size, _, _, rfl, cell_set g0 _, owns_mono (oo23.kept (setCell_grown _ ⟨v1.heap.size, 0, none⟩ _) (.inr nr23)) zWV, zr20, lt_set g0 _, zWVb.trans ((Y23.setCell (p := ⟨v1.heap.size, 0, none⟩) zr20 _).mono zWV)⟩
       refine AllReadyH.cons (o := ?_) ?_ (fun K hK => ?_) AllReadyH.nil
       rotate_left
       ·(simp only [List.getElem?_toArray, List.getElem?_cons_zero, List.getElem?_cons_succ]; rfl)
       go_simp
       (try go_wp2_with fail)
       refine hK.out _ _ ?_ (fun hHeld' => ?_)
       ·(try dsimp only)
        exact ⟨cell_later (Y20.alloc Y20.size _) c0, cell_later (Y20.alloc Y20.size _) c1, cell_later (Y20.alloc Y20.size _) c2⟩
       clear hK K hHeld
       have hHeld := hHeld'
       clear hHeld'
       (try simp only [Act.put, List.setIfInBounds_toArray, List.set_cons_zero, List.set_cons_succ])
       obtain ⟨v24, hU24⟩ : ∃ u, u = v20.alloc (.cells #[.int .i64 x, .int .i64 y] 3) := ⟨_, rfl⟩
       have hb24 : Below v20.heap.size v20 v24 := by rw [hU24]; exact (Below.refl _ _).alloc (Nat.le_refl _) _
       have zs24 : v20.heap.size < v24.heap.size := by rw [hU24]; simp
       have Y24 := Y20.trans (hb24.mono Y20.size)
       have zy24 := Y20.size
       have oo24 := owns_below oo20 hb24
       have rr24 := (hb24.block v1.heap.size (Array.getElem?_eq_some_iff.1 rr20).1).trans rr20
       have pa24 : v24.cell? ⟨v20.heap.size, 0, none⟩ = some (.int .i64 x) := by rw [hU24]; exact pair0 v20 _ _ _
       have pb24 : v24.cell? ⟨v20.heap.size, 1, none⟩ = some (.int .i64 y) := by rw [hU24]; exact pair1 v20 _ _ _
       have pp24 : At v24 (some ⟨v20.heap.size, 0, none⟩) [x, y] := at_two pa24 pb24
       have np24 : (Value.slice (some ⟨v0.heap.size, 0, none⟩) 0 0).ownBlock ≠ some (v20.heap.size) := fun e => by have h9 := (oo20.lt _ e).2; omega
       rw [← hU24]
       clear hU24
       refine wpAnyH_ready (rs := [4]) (by kernel_rfl) (by simp) ?_
       refine AllReadyH.cons (o := ?_) ?_ (fun K hK => ?_) AllReadyH.nil
       rotate_left
       ·(simp only [List.getElem?_toArray, List.getElem?_cons_zero, List.getElem?_cons_succ]; rfl)
       refine step_append_all rfl (.tmp 19) (.tmp 22) 25 rfl V.heap.size 3 j0 (.int .i64 0) 8 Try.underlying25 hj hy0 hy1 hy2 rfl (.slice (some ⟨v0.heap.size, 0, none⟩) 0 0) 0 [] (by simp [Act.eval]) oo24 q m dd ys (by simp [Act.eval]) HM.out (HATV.out.below Y24) HNIL.out (by unfold maxLen; omega) (by omega) Y24.size ?_
       intro r25 d25 v25 oo25 hg25 ht25
       simp only [Nat.zero_add, List.nil_append] at oo25 ht25 ⊢
       have Y25 := Y24.grown hg25 Y24.size (fun j hj => (oo24.lt j hj).1)
       have zy25 := Y24.size
       have zg25 := hg25.size
       have pp25 := at_far pp24 hg25 np24
       have np25 : (Value.slice r25 m d25).ownBlock ≠ some (v20.heap.size) := fun e => by
        rcases ht25 with h9 | h9
        ·exact np24 (h9.symm.trans e)
        ·rw [h9] at e
         simp only [Option.some.injEq] at e
         have := World.block_lt_of_cell? _ _ (at_cell0 pp24)
         simp only at this
         omega
       have rr25 := (hg25.block v1.heap.size (Array.getElem?_eq_some_iff.1 rr24).1 (fun e => nr20 e.symm)).trans rr24
       have nr25 : (Value.slice r25 m d25).ownBlock ≠ some (v1.heap.size) := fun e => by
        rcases ht25 with h9 | h9
        ·exact nr20 (h9.symm.trans e)
        ·rw [h9] at e
         simp only [Option.some.injEq] at e
         have := (Array.getElem?_eq_some_iff.1 rr24).1
         omega
       refine hK.out _ _ ?_ (fun hHeld' => ?_)
       ·(try dsimp only)
        exact ⟨cell_later Y25 c0, cell_later Y25 c1, cell_later Y25 c2⟩
       clear hK K hHeld
       have hHeld := hHeld'
       clear hHeld'
       (try simp only [Act.put, List.setIfInBounds_toArray, List.set_cons_zero, List.set_cons_succ])
       refine wpAnyH_ready (rs := [10]) (by kernel_rfl) (by simp) ?_
       refine AllReadyH.cons (o := ?_) ?_ (fun K hK => ?_) AllReadyH.nil
       rotate_left
       ·(simp only [List.getElem?_toArray, List.getElem?_cons_zero, List.getElem?_cons_succ]; rfl)
       refine step_append_all rfl (.tmp 23) (.tmp 28) 25 rfl V.heap.size 3 j0 (.int .i64 0) 8 Try.underlying25 hj hy0 hy1 hy2 rfl (.slice r25 m d25) m (ys.map (.int .i64)) (by simp [Act.eval]) oo25 (some ⟨v20.heap.size, 0, none⟩) 2 2 [x, y] (by simp [Act.eval]) rfl pp25 (fun h => by cases h) (by unfold maxLen; omega) (by omega) Y25.size ?_
       intro r26 d26 v26 oo26 hg26 ht26
       have Y26 := Y25.grown hg26 Y25.size (fun j hj => (oo25.lt j hj).1)
       have zy26 := Y25.size
       have zg26 := hg26.size
       have rr26 := (hg26.block v1.heap.size (Array.getElem?_eq_some_iff.1 rr25).1 (fun e => nr25 e.symm)).trans rr25
       have nr26 : (Value.slice r26 (m + 2) d26).ownBlock ≠ some (v1.heap.size) := fun e => by
        rcases ht26 with h9 | h9
        ·exact nr25 (h9.symm.trans e)
        ·rw [h9] at e
         simp only [Option.some.injEq] at e
         have := (Array.getElem?_eq_some_iff.1 rr25).1
         omega
       refine hK.out _ _ ?_ (fun hHeld' => ?_)
       ·(try dsimp only)
        exact ⟨cell_later Y26 c0, cell_later Y26 c1, cell_later Y26 c2⟩
       clear hK K hHeld
       have hHeld := hHeld'
       clear hHeld'
       (try simp only [Act.put, List.setIfInBounds_toArray, List.set_cons_zero, List.set_cons_succ])
       refine wpAnyH_take (i := 11) (oi := ?_) (v := ?_) ?_ (by kernel_rfl) (by kernel_rfl) (by kernel_rfl) ?_ (Or.inl ⟨?_, ?_⟩) (by assumption) ?_
       rotate_left 2
       ·(simp only [List.getElem?_toArray, List.getElem?_cons_zero, List.getElem?_cons_succ]; rfl)
       ·exact fun _ _ _ h => h
       ·rfl
       ·(intro wS hSw; (try dsimp only at hSw); go_simp; (try with_reducible rfl))
       (try simp only [Act.put, List.setIfInBounds_toArray, List.set_cons_zero, List.set_cons_succ])
       have g0 : v26.cell? ⟨v1.heap.size, 0, none⟩ = some (.slice none 0 0) := by rw [cell_of_row _ _ 0 _ _ (0, 0) rr26]; rfl
       have g1 : v26.frozen? ⟨v1.heap.size, 0, none⟩ = false := frozen_of_row _ _ 0 _ _ rr26
       refine wpAnyH_ready (rs := [13]) (by kernel_rfl) (by simp) ?_
       refine AllReadyH.cons (o := ?_) ?_ (fun K hK => ?_) AllReadyH.nil
       rotate_left
       ·(simp only [List.getElem?_toArray, List.getElem?_cons_zero, List.getElem?_cons_succ]; rfl)
       go_simp
       (try go_wp2_with fail)
       refine hK.out _ _ ?_ (fun hHeld' => ?_)
       ·(try dsimp only)
        exact ⟨cell_later (Y26.setCell (p := ⟨v1.heap.size, 0, none⟩) zr20 _) c0, cell_later (Y26.setCell (p := ⟨v1.heap.size, 0, none⟩) zr20 _) c1, cell_later (Y26.setCell (p := ⟨v1.heap.size, 0, none⟩) zr20 _) c2⟩
       clear hK K hHeld
       have hHeld := hHeld'
       clear hHeld'
       (try simp only [Act.put, List.setIfInBounds_toArray, List.set_cons_zero, List.set_cons_succ])
       refine wpAnyH_done (by kernel_rfl) ?_ _
       (try go_wp2_with fail)
       go_meet
       case rel =>
        exact ⟨v1.heap.size, _, _, rfl, cell_set g0 _, owns_mono (oo26.kept (setCell_grown _ ⟨v1.heap.size, 0, none⟩ _) (.inr nr26)) zWV, zr20, lt_set g0 _, zWVb.trans ((Y26.setCell (p := ⟨v1.heap.size, 0, none⟩) zr20 _).mono zWV)⟩
      refine AllReadyH.cons (o := ?_) ?_ (fun K hK => ?_) ?_
      rotate_left
      ·(simp only [List.getElem?_toArray, List.getElem?_cons_zero, List.getElem?_cons_succ]; rfl)
      ·go_simp
       (try go_wp2_with fail)
       refine hK.out _ _ ?_ (fun hHeld' => ?_)
       ·(try dsimp only)
        exact ⟨cell_later (Y0.alloc Y0.size _) c0, cell_later (Y0.alloc Y0.size _) c1, cell_later (Y0.alloc Y0.size _) c2⟩
       clear hK K hHeld
       have hHeld := hHeld'
       clear hHeld'
       (try simp only [Act.put, List.setIfInBounds_toArray, List.set_cons_zero, List.set_cons_succ])
       obtain ⟨v27, hU27⟩ : ∃ u, u = v0.alloc (.cells #[.int .i64 x, .int .i64 y] 3) := ⟨_, rfl⟩
       have hb27 : Below v0.heap.size v0 v27 := by rw [hU27]; exact (Below.refl _ _).alloc (Nat.le_refl _) _
       have zs27 : v0.heap.size < v27.heap.size := by rw [hU27]; simp
       have Y27 := Y0.trans (hb27.mono Y0.size)
       have zy27 := Y0.size
       have pa27 : v27.cell? ⟨v0.heap.size, 0, none⟩ = some (.int .i64 x) := by rw [hU27]; exact pair0 v0 _ _ _
       have pb27 : v27.cell? ⟨v0.heap.size, 1, none⟩ = some (.int .i64 y) := by rw [hU27]; exact pair1 v0 _ _ _
       have pp27 : At v27 (some ⟨v0.heap.size, 0, none⟩) [x, y] := at_two pa27 pb27
       rw [← hU27]
       clear hU27
       refine wpAnyH_ready (rs := [0, 12]) (by kernel_rfl) (by simp) ?_
       refine AllReadyH.cons (o := ?_) ?_ (fun K hK => ?_) ?_
       rotate_left
       ·(simp only [List.getElem?_toArray, List.getElem?_cons_zero]; rfl)
       ·go_simp
        (try go_wp2_with fail)
        refine hK.out _ _ ?_ (fun hHeld' => ?_)
        ·(try dsimp only)
         exact ⟨cell_later (Y27.alloc Y27.size _) c0, cell_later (Y27.alloc Y27.size _) c1, cell_later (Y27.alloc Y27.size _) c2⟩
        clear hK K hHeld
        have hHeld := hHeld'
        clear hHeld'
        (try simp only [Act.put, List.setIfInBounds_toArray, List.set_cons_zero, List.set_cons_succ])
        obtain ⟨v28, hU28⟩ : ∃ u, u = v27.alloc (.cells #[] 3) := ⟨_, rfl⟩
        have hb28 : Below v27.heap.size v27 v28 := by rw [hU28]; exact (Below.refl _ _).alloc (Nat.le_refl _) _
        have zs28 : v27.heap.size < v28.heap.size := by rw [hU28]; simp
        have Y28 := Y27.trans (hb28.mono Y27.size)
        have zy28 := Y27.size
        have pp28 := pp27.below hb28
        have oo28 : v28.ownsRow V.heap.size 3 1 (.slice (some ⟨v27.heap.size, 0, none⟩) 0 0) 0 [] := by rw [hU28]; exact owns_mono (owns_empty v27 3 1) Y27.size
        have np28 : (Value.slice (some ⟨v27.heap.size, 0, none⟩) 0 0).ownBlock ≠ some (v0.heap.size) := fun e => by simp [Value.ownBlock] at e; omega
        rw [← hU28]
        clear hU28
        refine wpAnyH_ready (rs := [4, 12]) (by kernel_rfl) (by simp) ?_
        refine AllReadyH.cons (o := ?_) ?_ (fun K hK => ?_) ?_
        rotate_left
        ·(simp only [List.getElem?_toArray, List.getElem?_cons_zero, List.getElem?_cons_succ]; rfl)
        ·refine step_append_all rfl (.tmp 19) (.tmp 22) 25 rfl V.heap.size 3 j0 (.int .i64 0) 8 Try.underlying25 hj hy0 hy1 hy2 rfl (.slice (some ⟨v27.heap.size, 0, none⟩) 0 0) 0 [] (by simp [Act.eval]) oo28 q m dd ys (by simp [Act.eval]) HM.out (HATV.out.below Y28) HNIL.out (by unfold maxLen; omega) (by omega) Y28.size ?_
         intro r29 d29 v29 oo29 hg29 ht29
         simp only [Nat.zero_add, List.nil_append] at oo29 ht29 ⊢
         have Y29 := Y28.grown hg29 Y28.size (fun j hj => (oo28.lt j hj).1)
         have zy29 := Y28.size
         have zg29 := hg29.size
         have pp29 := at_far pp28 hg29 np28
         have np29 : (Value.slice r29 m d29).ownBlock ≠ some (v0.heap.size) := fun e => by
          rcases ht29 with h9 | h9
          ·exact np28 (h9.symm.trans e)
          ·rw [h9] at e
           simp only [Option.some.injEq] at e
           have := World.block_lt_of_cell? _ _ (at_cell0 pp28)
           simp only at this
           omega
         refine hK.out _ _ ?_ (fun hHeld' => ?_)
         ·(try dsimp only)
          exact ⟨cell_later Y29 c0, cell_later Y29 c1, cell_later Y29 c2⟩
         clear hK K hHeld
         have hHeld := hHeld'
         clear hHeld'
         (try simp only [Act.put, List.setIfInBounds_toArray, List.set_cons_zero, List.set_cons_succ])
         refine wpAnyH_ready (rs := [10, 12]) (by kernel_rfl) (by simp) ?_
         refine AllReadyH.cons (o := ?_) ?_ (fun K hK => ?_) ?_
         rotate_left
         ·(simp only [List.getElem?_toArray, List.getElem?_cons_zero, List.getElem?_cons_succ]; rfl)
         ·refine step_append_all rfl (.tmp 23) (.tmp 28) 25 rfl V.heap.size 3 j0 (.int .i64 0) 8 Try.underlying25 hj hy0 hy1 hy2 rfl (.slice r29 m d29) m (ys.map (.int .i64)) (by simp [Act.eval]) oo29 (some ⟨v0.heap.size, 0, none⟩) 2 2 [x, y] (by simp [Act.eval]) rfl pp29 (fun h => by cases h) (by unfold maxLen; omega) (by omega) Y29.size ?_
          intro r30 d30 v30 oo30 hg30 ht30
          have Y30 := Y29.grown hg30 Y29.size (fun j hj => (oo29.lt j hj).1)
          have zy30 := Y29.size
          have zg30 := hg30.size
          refine hK.out _ _ ?_ (fun hHeld' => ?_)
          ·(try dsimp only)
           exact ⟨cell_later Y30 c0, cell_later Y30 c1, cell_later Y30 c2⟩
          clear hK K hHeld
          have hHeld := hHeld'
          clear hHeld'
          (try simp only [Act.put, List.setIfInBounds_toArray, List.set_cons_zero, List.set_cons_succ])
          refine wpAnyH_take (i := 11) (oi := ?_) (v := ?_) ?_ (by kernel_rfl) (by kernel_rfl) (by kernel_rfl) ?_ (Or.inl ⟨?_, ?_⟩) (by assumption) ?_
          rotate_left 2
          ·(simp only [List.getElem?_toArray, List.getElem?_cons_zero, List.getElem?_cons_succ]; rfl)
          ·exact fun _ _ _ h => h
          ·rfl
          ·(intro wS hSw; (try dsimp only at hSw); go_simp; (try with_reducible rfl))
          (try simp only [Act.put, List.setIfInBounds_toArray, List.set_cons_zero, List.set_cons_succ])
          refine wpAnyH_ready (rs := [12]) (by kernel_rfl) (by simp) ?_
          refine AllReadyH.cons (o := ?_) ?_ (fun K hK => ?_) AllReadyH.nil
          rotate_left
          ·(simp only [List.getElem?_toArray, List.getElem?_cons_zero, List.getElem?_cons_succ]; rfl)
          go_simp
          (try go_wp2_with fail)
          refine hK.out _ _ ?_ (fun hHeld' => ?_)
          ·(try dsimp only)
           exact ⟨cell_later (Y30.alloc Y30.size _) c0, cell_later (Y30.alloc Y30.size _) c1, cell_later (Y30.alloc Y30.size _) c2⟩
          clear hK K hHeld
          have hHeld := hHeld'
          clear hHeld'
          (try simp only [Act.put, List.setIfInBounds_toArray, List.set_cons_zero, List.set_cons_succ])
          obtain ⟨v31, hU31⟩ : ∃ u, u = v30.alloc (.cells #[.slice none 0 0] 67) := ⟨_, rfl⟩
          have hb31 : Below v30.heap.size v30 v31 := by rw [hU31]; exact (Below.refl _ _).alloc (Nat.le_refl _) _
          have zs31 : v30.heap.size < v31.heap.size := by rw [hU31]; simp
          have Y31 := Y30.trans (hb31.mono Y30.size)
          have zy31 := Y30.size
          have oo31 := owns_below oo30 hb31
          have rr31 : v31.heap[v30.heap.size]? = some (.cells #[.slice none 0 0] 67 (0, 0)) := by rw [hU31]; exact heap_alloc_new _ _
          have zr31 : V.heap.size ≤ v30.heap.size := Y30.size
          have nr31 : (Value.slice r30 (m + 2) d30).ownBlock ≠ some (v30.heap.size) := fun e => by have h9 := (oo30.lt _ e).2; omega
          rw [← hU31]
          clear hU31
          have g0 : v31.cell? ⟨v30.heap.size, 0, none⟩ = some (.slice none 0 0) := by rw [cell_of_row _ _ 0 _ _ (0, 0) rr31]; rfl
          have g1 : v31.frozen? ⟨v30.heap.size, 0, none⟩ = false := frozen_of_row _ _ 0 _ _ rr31
          refine wpAnyH_ready (rs := [13]) (by kernel_rfl) (by simp) ?_
          refine AllReadyH.cons (o := ?_) ?_ (fun K hK => ?_) AllReadyH.nil
          rotate_left
          ·(simp only [List.getElem?_toArray, List.getElem?_cons_zero, List.getElem?_cons_succ]; rfl)
          go_simp
          (try go_wp2_with fail)
          refine hK.out _ _ ?_ (fun hHeld' => ?_)
          ·(try dsimp only)
           exact ⟨cell_later (Y31.setCell (p := ⟨v30.heap.size, 0, none⟩) zr31 _) c0, cell_later (Y31.setCell (p := ⟨v30.heap.size, 0, none⟩) zr31 _) c1, cell_later (Y31.setCell (p := ⟨v30.heap.size, 0, none⟩) zr31 _) c2⟩
          clear hK K hHeld
          have hHeld := hHeld'
          clear hHeld'
          (try simp only [Act.put, List.setIfInBounds_toArray, List.set_cons_zero, List.set_cons_succ])
          refine wpAnyH_done (by kernel_rfl) ?_ _
          (try go_wp2_with fail)
          go_meet
          case rel =>
           exact ⟨v30.heap.size, _, _, rfl, cell_set g0 _, owns_mono (oo31.kept (setCell_grown _ ⟨v30.heap.size, 0, none⟩ _) (.inr nr31)) zWV, zr31, lt_set g0 _, zWVb.trans ((Y31.setCell (p := ⟨v30.heap.size, 0, none⟩) zr31 _).mono zWV)⟩
         refine AllReadyH.cons (o := ?_) ?_ (fun K hK => ?_) AllReadyH.nil
         rotate_left
         ·(simp only [List.getElem?_toArray, List.getElem?_cons_zero, List.getElem?_cons_succ]; rfl)
         go_simp
         (try go_wp2_with fail)
         refine hK.out _ _ ?_ (fun hHeld' => ?_)
         ·(try dsimp only)
          exact ⟨cell_later (Y29.alloc Y29.size _) c0, cell_later (Y29.alloc Y29.size _) c1, cell_later (Y29.alloc Y29.size _) c2⟩
         clear hK K hHeld
         have hHeld := hHeld'
         clear hHeld'
         (try simp only [Act.put, List.setIfInBounds_toArray, List.set_cons_zero, List.set_cons_succ])
         obtain ⟨v32, hU32⟩ : ∃ u, u = v29.alloc (.cells #[.slice none 0 0] 67) := ⟨_, rfl⟩
         have hb32 : Below v29.heap.size v29 v32 := by rw [hU32]; exact (Below.refl _ _).alloc (Nat.le_refl _) _
         have zs32 : v29.heap.size < v32.heap.size := by rw [hU32]; simp
         have Y32 := Y29.trans (hb32.mono Y29.size)
         have zy32 := Y29.size
         have oo32 := owns_below oo29 hb32
         have pp32 := pp29.below hb32
         have rr32 : v32.heap[v29.heap.size]? = some (.cells #[.slice none 0 0] 67 (0, 0)) := by rw [hU32]; exact heap_alloc_new _ _
         have zr32 : V.heap.size ≤ v29.heap.size := Y29.size
         have nr32 : (Value.slice r29 m d29).ownBlock ≠ some (v29.heap.size) := fun e => by have h9 := (oo29.lt _ e).2; omega
         rw [← hU32]
         clear hU32
         refine wpAnyH_ready (rs := [10]) (by kernel_rfl) (by simp) ?_
         refine AllReadyH.cons (o := ?_) ?_ (fun K hK => ?_) AllReadyH.nil
         rotate_left
         ·(simp only [List.getElem?_toArray, List.getElem?_cons_zero, List.getElem?_cons_succ]; rfl)
         refine step_append_all rfl (.tmp 23) (.tmp 28) 25 rfl V.heap.size 3 j0 (.int .i64 0) 8 Try.underlying25 hj hy0 hy1 hy2 rfl (.slice r29 m d29) m (ys.map (.int .i64)) (by simp [Act.eval]) oo32 (some ⟨v0.heap.size, 0, none⟩) 2 2 [x, y] (by simp [Act.eval]) rfl pp32 (fun h => by cases h) (by unfold maxLen; omega) (by omega) Y32.size ?_
         intro r33 d33 v33 oo33 hg33 ht33
         have Y33 := Y32.grown hg33 Y32.size (fun j hj => (oo32.lt j hj).1)
         have zy33 := Y32.size
         have zg33 := hg33.size
         have rr33 := (hg33.block v29.heap.size (Array.getElem?_eq_some_iff.1 rr32).1 (fun e => nr32 e.symm)).trans rr32
         have nr33 : (Value.slice r33 (m + 2) d33).ownBlock ≠ some (v29.heap.size) := fun e => by
          rcases ht33 with h9 | h9
          ·exact nr32 (h9.symm.trans e)
          ·rw [h9] at e
           simp only [Option.some.injEq] at e
           have := (Array.getElem?_eq_some_iff.1 rr32).1
           omega
         refine hK.out _ _ ?_ (fun hHeld' => ?_)
         ·(try dsimp only)
          exact ⟨cell_later Y33 c0, cell_later Y33 c1, cell_later Y33 c2⟩
         clear hK K hHeld
         have hHeld := hHeld'
         clear hHeld'
         (try simp only [Act.put, List.setIfInBounds_toArray, List.set_cons_zero, List.set_cons_succ])
         refine wpAnyH_take (i := 11) (oi := ?_) (v := ?_) ?_ (by kernel_rfl) (by kernel_rfl) (by kernel_rfl) ?_ (Or.inl ⟨?_, ?_⟩) (by assumption) ?_
         rotate_left 2
         ·(simp only [List.getElem?_toArray, List.getElem?_cons_zero, List.getElem?_cons_succ]; rfl)
         ·exact fun _ _ _ h => h
         ·rfl
         ·(intro wS hSw; (try dsimp only at hSw); go_simp; (try with_reducible rfl))
         (try simp only [Act.put, List.setIfInBounds_toArray, List.set_cons_zero, List.set_cons_succ])
         have g0 : v33.cell? ⟨v29.heap.size, 0, none⟩ = some (.slice none 0 0) := by rw [cell_of_row _ _ 0 _ _ (0, 0) rr33]; rfl
         have g1 : v33.frozen? ⟨v29.heap.size, 0, none⟩ = false := frozen_of_row _ _ 0 _ _ rr33
         refine wpAnyH_ready (rs := [13]) (by kernel_rfl) (by simp) ?_
         refine AllReadyH.cons (o := ?_) ?_ (fun K hK => ?_) AllReadyH.nil
         rotate_left
         ·(simp only [List.getElem?_toArray, List.getElem?_cons_zero, List.getElem?_cons_succ]; rfl)
         go_simp
         (try go_wp2_with fail)
         refine hK.out _ _ ?_ (fun hHeld' => ?_)
         ·(try dsimp only)
          exact ⟨cell_later (Y33.setCell (p := ⟨v29.heap.size, 0, none⟩) zr32 _) c0, cell_later (Y33.setCell (p := ⟨v29.heap.size, 0, none⟩) zr32 _) c1, cell_later (Y33.setCell (p := ⟨v29.heap.size, 0, none⟩) zr32 _) c2⟩
         clear hK K hHeld
         have hHeld := hHeld'
         clear hHeld'
         (try simp only [Act.put, List.setIfInBounds_toArray, List.set_cons_zero, List.set_cons_succ])
         refine wpAnyH_done (by kernel_rfl) ?_ _
         (try go_wp2_with fail)
         go_meet
         case rel =>
          exact ⟨v29.heap.size, _, _, rfl, cell_set g0 _, owns_mono (oo33.kept (setCell_grown _ ⟨v29.heap.size, 0, none⟩ _) (.inr nr33)) zWV, zr32, lt_set g0 _, zWVb.trans ((Y33.setCell (p := ⟨v29.heap.size, 0, none⟩) zr32 _).mono zWV)⟩
        refine AllReadyH.cons (o := ?_) ?_ (fun K hK => ?_) AllReadyH.nil
        rotate_left
        ·(simp only [List.getElem?_toArray, List.getElem?_cons_zero, List.getElem?_cons_succ]; rfl)
        go_simp
        (try go_wp2_with fail)
        refine hK.out _ _ ?_ (fun hHeld' => ?_)
        ·(try dsimp only)
         exact ⟨cell_later (Y28.alloc Y28.size _) c0, cell_later (Y28.alloc Y28.size _) c1, cell_later (Y28.alloc Y28.size _) c2⟩
        clear hK K hHeld
        have hHeld := hHeld'
        clear hHeld'
        (try simp only [Act.put, List.setIfInBounds_toArray, List.set_cons_zero, List.set_cons_succ])
        obtain ⟨v34, hU34⟩ : ∃ u, u = v28.alloc (.cells #[.slice none 0 0] 67) := ⟨_, rfl⟩
        have hb34 : Below v28.heap.size v28 v34 := by rw [hU34]; exact (Below.refl _ _).alloc (Nat.le_refl _) _
        have zs34 : v28.heap.size < v34.heap.size := by rw [hU34]; simp
        have Y34 := Y28.trans (hb34.mono Y28.size)
        have zy34 := Y28.size
        have oo34 := owns_below oo28 hb34
        have pp34 := pp28.below hb34
        have rr34 : v34.heap[v28.heap.size]? = some (.cells #[.slice none 0 0] 67 (0, 0)) := by rw [hU34]; exact heap_alloc_new _ _
        have zr34 : V.heap.size ≤ v28.heap.size := Y28.size
        have nr34 : (Value.slice (some ⟨v27.heap.size, 0, none⟩) 0 0).ownBlock ≠ some (v28.heap.size) := fun e => by have h9 := (oo28.lt _ e).2; omega
        rw [← hU34]
        clear hU34
        refine wpAnyH_ready (rs := [4]) (by kernel_rfl) (by simp) ?_
        refine AllReadyH.cons (o := ?_) ?_ (fun K hK => ?_) AllReadyH.nil
        rotate_left
        ·(simp only [List.getElem?_toArray, List.getElem?_cons_zero, List.getElem?_cons_succ]; rfl)
        refine step_append_all rfl (.tmp 19) (.tmp 22) 25 rfl V.heap.size 3 j0 (.int .i64 0) 8 Try.underlying25 hj hy0 hy1 hy2 rfl (.slice (some ⟨v27.heap.size, 0, none⟩) 0 0) 0 [] (by simp [Act.eval]) oo34 q m dd ys (by simp [Act.eval]) HM.out (HATV.out.below Y34) HNIL.out (by unfold maxLen; omega) (by omega) Y34.size ?_
        intro r35 d35 v35 oo35 hg35 ht35
        simp only [Nat.zero_add, List.nil_append] at oo35 ht35 ⊢
        have Y35 := Y34.grown hg35 Y34.size (fun j hj => (oo34.lt j hj).1)
        have zy35 := Y34.size
        have zg35 := hg35.size
        have pp35 := at_far pp34 hg35 np28
        have np35 : (Value.slice r35 m d35).ownBlock ≠ some (v0.heap.size) := fun e => by
         rcases ht35 with h9 | h9
         ·exact np28 (h9.symm.trans e)
         ·rw [h9] at e
          simp only [Option.some.injEq] at e
          have := World.block_lt_of_cell? _ _ (at_cell0 pp34)
          simp only at this
          omega
        have rr35 := (hg35.block v28.heap.size (Array.getElem?_eq_some_iff.1 rr34).1 (fun e => nr34 e.symm)).trans rr34
        have nr35 : (Value.slice r35 m d35).ownBlock ≠ some (v28.heap.size) := fun e => by
         rcases ht35 with h9 | h9
         ·exact nr34 (h9.symm.trans e)
         ·rw [h9] at e
          simp only [Option.some.injEq] at e
          have := (Array.getElem?_eq_some_iff.1 rr34).1
          omega
        refine hK.out _ _ ?_ (fun hHeld' => ?_)
        ·(try dsimp only)
         exact ⟨cell_later Y35 c0, cell_later Y35 c1, cell_later Y35 c2⟩
        clear hK K hHeld
        have hHeld := hHeld'
        clear hHeld'
        (try simp only [Act.put, List.setIfInBounds_toArray, List.set_cons_zero, List.set_cons_succ])
        refine wpAnyH_ready (rs := [10]) (by kernel_rfl) (by simp) ?_
        refine AllReadyH.cons (o := ?_) ?_ (fun K hK => ?_) AllReadyH.nil
        rotate_left
        ·(simp only [List.getElem?_toArray, List.getElem?_cons_zero, List.getElem?_cons_succ]; rfl)
        refine step_append_all rfl (.tmp 23) (.tmp 28) 25 rfl V.heap.size 3 j0 (.int .i64 0) 8 Try.underlying25 hj hy0 hy1 hy2 rfl (.slice r35 m d35) m (ys.map (.int .i64)) (by simp [Act.eval]) oo35 (some ⟨v0.heap.size, 0, none⟩) 2 2 [x, y] (by simp [Act.eval]) rfl pp35 (fun h => by cases h) (by unfold maxLen; omega) (by omega) Y35.size ?_
        intro r36 d36 v36 oo36 hg36 ht36
        have Y36 := Y35.grown hg36 Y35.size (fun j hj => (oo35.lt j hj).1)
        have zy36 := Y35.size
        have zg36 := hg36.size
        have rr36 := (hg36.block v28.heap.size (Array.getElem?_eq_some_iff.1 rr35).1 (fun e => nr35 e.symm)).trans rr35
        have nr36 : (Value.slice r36 (m + 2) d36).ownBlock ≠ some (v28.heap.size) := fun e => by
         rcases ht36 with h9 | h9
         ·exact nr35 (h9.symm.trans e)
         ·rw [h9] at e
          simp only [Option.some.injEq] at e
          have := (Array.getElem?_eq_some_iff.1 rr35).1
          omega
        refine hK.out _ _ ?_ (fun hHeld' => ?_)
        ·(try dsimp only)
         exact ⟨cell_later Y36 c0, cell_later Y36 c1, cell_later Y36 c2⟩
        clear hK K hHeld
        have hHeld := hHeld'
        clear hHeld'
        (try simp only [Act.put, List.setIfInBounds_toArray, List.set_cons_zero, List.set_cons_succ])
        refine wpAnyH_take (i := 11) (oi := ?_) (v := ?_) ?_ (by kernel_rfl) (by kernel_rfl) (by kernel_rfl) ?_ (Or.inl ⟨?_, ?_⟩) (by assumption) ?_
        rotate_left 2
        ·(simp only [List.getElem?_toArray, List.getElem?_cons_zero, List.getElem?_cons_succ]; rfl)
        ·exact fun _ _ _ h => h
        ·rfl
        ·(intro wS hSw; (try dsimp only at hSw); go_simp; (try with_reducible rfl))
        (try simp only [Act.put, List.setIfInBounds_toArray, List.set_cons_zero, List.set_cons_succ])
        have g0 : v36.cell? ⟨v28.heap.size, 0, none⟩ = some (.slice none 0 0) := by rw [cell_of_row _ _ 0 _ _ (0, 0) rr36]; rfl
        have g1 : v36.frozen? ⟨v28.heap.size, 0, none⟩ = false := frozen_of_row _ _ 0 _ _ rr36
        refine wpAnyH_ready (rs := [13]) (by kernel_rfl) (by simp) ?_
        refine AllReadyH.cons (o := ?_) ?_ (fun K hK => ?_) AllReadyH.nil
        rotate_left
        ·(simp only [List.getElem?_toArray, List.getElem?_cons_zero, List.getElem?_cons_succ]; rfl)
        go_simp
        (try go_wp2_with fail)
        refine hK.out _ _ ?_ (fun hHeld' => ?_)
        ·(try dsimp only)
         exact ⟨cell_later (Y36.setCell (p := ⟨v28.heap.size, 0, none⟩) zr34 _) c0, cell_later (Y36.setCell (p := ⟨v28.heap.size, 0, none⟩) zr34 _) c1, cell_later (Y36.setCell (p := ⟨v28.heap.size, 0, none⟩) zr34 _) c2⟩
        clear hK K hHeld
        have hHeld := hHeld'
        clear hHeld'
        (try simp only [Act.put, List.setIfInBounds_toArray, List.set_cons_zero, List.set_cons_succ])
        refine wpAnyH_done (by kernel_rfl) ?_ _
        (try go_wp2_with fail)
        go_meet
        case rel =>
         exact ⟨v28.heap.size, _, _, rfl, cell_set g0 _, owns_mono (oo36.kept (setCell_grown _ ⟨v28.heap.size, 0, none⟩ _) (.inr nr36)) zWV, zr34, lt_set g0 _, zWVb.trans ((Y36.setCell (p := ⟨v28.heap.size, 0, none⟩) zr34 _).mono zWV)⟩
       refine AllReadyH.cons (o := ?_) ?_ (fun K hK => ?_) AllReadyH.nil
       rotate_left
       ·(simp only [List.getElem?_toArray, List.getElem?_cons_zero, List.getElem?_cons_succ]; rfl)
       go_simp
       (try go_wp2_with fail)
       refine hK.out _ _ ?_ (fun hHeld' => ?_)
       ·(try dsimp only)
        exact ⟨cell_later (Y27.alloc Y27.size _) c0, cell_later (Y27.alloc Y27.size _) c1, cell_later (Y27.alloc Y27.size _) c2⟩
       clear hK K hHeld
       have hHeld := hHeld'
       clear hHeld'
       (try simp only [Act.put, List.setIfInBounds_toArray, List.set_cons_zero, List.set_cons_succ])
       obtain ⟨v37, hU37⟩ : ∃ u, u = v27.alloc (.cells #[.slice none 0 0] 67) := ⟨_, rfl⟩
       have hb37 : Below v27.heap.size v27 v37 := by rw [hU37]; exact (Below.refl _ _).alloc (Nat.le_refl _) _
       have zs37 : v27.heap.size < v37.heap.size := by rw [hU37]; simp
       have Y37 := Y27.trans (hb37.mono Y27.size)
       have zy37 := Y27.size
       have pp37 := pp27.below hb37
       have rr37 : v37.heap[v27.heap.size]? = some (.cells #[.slice none 0 0] 67 (0, 0)) := by rw [hU37]; exact heap_alloc_new _ _
       have zr37 : V.heap.size ≤ v27.heap.size := Y27.size
       rw [← hU37]
       clear hU37
       refine wpAnyH_ready (rs := [0]) (by kernel_rfl) (by simp) ?_
       refine AllReadyH.cons (o := ?_) ?_ (fun K hK => ?_) AllReadyH.nil
       rotate_left
       ·(simp only [List.getElem?_toArray, List.getElem?_cons_zero]; rfl)
       go_simp
       (try go_wp2_with fail)
       refine hK.out _ _ ?_ (fun hHeld' => ?_)
       ·(try dsimp only)
        exact ⟨cell_later (Y37.alloc Y37.size _) c0, cell_later (Y37.alloc Y37.size _) c1, cell_later (Y37.alloc Y37.size _) c2⟩
       clear hK K hHeld
       have hHeld := hHeld'
       clear hHeld'
       (try simp only [Act.put, List.setIfInBounds_toArray, List.set_cons_zero, List.set_cons_succ])
       obtain ⟨v38, hU38⟩ : ∃ u, u = v37.alloc (.cells #[] 3) := ⟨_, rfl⟩
       have hb38 : Below v37.heap.size v37 v38 := by rw [hU38]; exact (Below.refl _ _).alloc (Nat.le_refl _) _
       have zs38 : v37.heap.size < v38.heap.size := by rw [hU38]; simp
       have Y38 := Y37.trans (hb38.mono Y37.size)
       have zy38 := Y37.size
       have pp38 := pp37.below hb38
       have rr38 := (hb38.block v27.heap.size (Array.getElem?_eq_some_iff.1 rr37).1).trans rr37
       have oo38 : v38.ownsRow V.heap.size 3 1 (.slice (some ⟨v37.heap.size, 0, none⟩) 0 0) 0 [] := by rw [hU38]; exact owns_mono (owns_empty v37 3 1) Y37.size
       have np38 : (Value.slice (some ⟨v37.heap.size, 0, none⟩) 0 0).ownBlock ≠ some (v0.heap.size) := fun e => by simp [Value.ownBlock] at e; omega
       have nr38 : (Value.slice (some ⟨v37.heap.size, 0, none⟩) 0 0).ownBlock ≠ some (v27.heap.size) := fun e => by simp [Value.ownBlock] at e; omega
       rw [← hU38]
       clear hU38
       refine wpAnyH_ready (rs := [4]) (by kernel_rfl) (by simp) ?_
       refine AllReadyH.cons (o := ?_) ?_ (fun K hK => ?_) AllReadyH.nil
       rotate_left
       ·(simp only [List.getElem?_toArray, List.getElem?_cons_zero, List.getElem?_cons_succ]; rfl)
       refine step_append_all rfl (.tmp 19) (.tmp 22) 25 rfl V.heap.size 3 j0 (.int .i64 0) 8 Try.underlying25 hj hy0 hy1 hy2 rfl (.slice (some ⟨v37.heap.size, 0, none⟩) 0 0) 0 [] (by simp [Act.eval]) oo38 q m dd ys (by simp [Act.eval]) HM.out (HATV.out.below Y38) HNIL.out (by unfold maxLen; omega) (by omega) Y38.size ?_
       intro r39 d39 v39 oo39 hg39 ht39
       simp only [Nat.zero_add, List.nil_append] at oo39 ht39 ⊢
       have Y39 := Y38.grown hg39 Y38.size (fun j hj => (oo38.lt j hj).1)
       have zy39 := Y38.size
       have zg39 := hg39.size
       have pp39 := at_far pp38 hg39 np38
       have np39 : (Value.slice r39 m d39).ownBlock ≠ some (v0.heap.size) := fun e => by
        rcases ht39 with h9 | h9
        ·exact np38 (h9.symm.trans e)
        ·rw [h9] at e
         simp only [Option.some.injEq] at e
         have := World.block_lt_of_cell? _ _ (at_cell0 pp38)
         simp only at this
         omega
       have rr39 := (hg39.block v27.heap.size (Array.getElem?_eq_some_iff.1 rr38).1 (fun e => nr38 e.symm)).trans rr38
       have nr39 : (Value.slice r39 m d39).ownBlock ≠ some (v27.heap.size) := fun e => by
        rcases ht39 with h9 | h9
        ·exact nr38 (h9.symm.trans e)
        ·rw [h9] at e
         simp only [Option.some.injEq] at e
         have := (Array.getElem?_eq_some_iff.1 rr38).1
         omega
       refine hK.out _ _ ?_ (fun hHeld' => ?_)
       ·(try dsimp only)
        exact ⟨cell_later Y39 c0, cell_later Y39 c1, cell_later Y39 c2⟩
       clear hK K hHeld
       have hHeld := hHeld'
       clear hHeld'
       (try simp only [Act.put, List.setIfInBounds_toArray, List.set_cons_zero, List.set_cons_succ])
       refine wpAnyH_ready (rs := [10]) (by kernel_rfl) (by simp) ?_
       refine AllReadyH.cons (o := ?_) ?_ (fun K hK => ?_) AllReadyH.nil
       rotate_left
       ·(simp only [List.getElem?_toArray, List.getElem?_cons_zero, List.getElem?_cons_succ]; rfl)
       refine step_append_all rfl (.tmp 23) (.tmp 28) 25 rfl V.heap.size 3 j0 (.int .i64 0) 8 Try.underlying25 hj hy0 hy1 hy2 rfl (.slice r39 m d39) m (ys.map (.int .i64)) (by simp [Act.eval]) oo39 (some ⟨v0.heap.size, 0, none⟩) 2 2 [x, y] (by simp [Act.eval]) rfl pp39 (fun h => by cases h) (by unfold maxLen; omega) (by omega) Y39.size ?_
       intro r40 d40 v40 oo40 hg40 ht40
       have Y40 := Y39.grown hg40 Y39.size (fun j hj => (oo39.lt j hj).1)
       have zy40 := Y39.size
       have zg40 := hg40.size
       have rr40 := (hg40.block v27.heap.size (Array.getElem?_eq_some_iff.1 rr39).1 (fun e => nr39 e.symm)).trans rr39
       have nr40 : (Value.slice r40 (m + 2) d40).ownBlock ≠ some (v27.heap.size) := fun e => by
        rcases ht40 with h9 | h9
        ·exact nr39 (h9.symm.trans e)
        ·rw [h9] at e
         simp only [Option.some.injEq] at e
         have := (Array.getElem?_eq_some_iff.1 rr39).1
         omega
       refine hK.out _ _ ?_ (fun hHeld' => ?_)
       ·(try dsimp only)
        exact ⟨cell_later Y40 c0, cell_later Y40 c1, cell_later Y40 c2⟩
       clear hK K hHeld
       have hHeld := hHeld'
       clear hHeld'
       (try simp only [Act.put, List.setIfInBounds_toArray, List.set_cons_zero, List.set_cons_succ])
       refine wpAnyH_take (i := 11) (oi := ?_) (v := ?_) ?_ (by kernel_rfl) (by kernel_rfl) (by kernel_rfl) ?_ (Or.inl ⟨?_, ?_⟩) (by assumption) ?_
       rotate_left 2
       ·(simp only [List.getElem?_toArray, List.getElem?_cons_zero, List.getElem?_cons_succ]; rfl)
       ·exact fun _ _ _ h => h
       ·rfl
       ·(intro wS hSw; (try dsimp only at hSw); go_simp; (try with_reducible rfl))
       (try simp only [Act.put, List.setIfInBounds_toArray, List.set_cons_zero, List.set_cons_succ])
       have g0 : v40.cell? ⟨v27.heap.size, 0, none⟩ = some (.slice none 0 0) := by rw [cell_of_row _ _ 0 _ _ (0, 0) rr40]; rfl
       have g1 : v40.frozen? ⟨v27.heap.size, 0, none⟩ = false := frozen_of_row _ _ 0 _ _ rr40
       refine wpAnyH_ready (rs := [13]) (by kernel_rfl) (by simp) ?_
       refine AllReadyH.cons (o := ?_) ?_ (fun K hK => ?_) AllReadyH.nil
       rotate_left
       ·(simp only [List.getElem?_toArray, List.getElem?_cons_zero, List.getElem?_cons_succ]; rfl)
       go_simp
       (try go_wp2_with fail)
       refine hK.out _ _ ?_ (fun hHeld' => ?_)
       ·(try dsimp only)
        exact ⟨cell_later (Y40.setCell (p := ⟨v27.heap.size, 0, none⟩) zr37 _) c0, cell_later (Y40.setCell (p := ⟨v27.heap.size, 0, none⟩) zr37 _) c1, cell_later (Y40.setCell (p := ⟨v27.heap.size, 0, none⟩) zr37 _) c2⟩
       clear hK K hHeld
       have hHeld := hHeld'
       clear hHeld'
       (try simp only [Act.put, List.setIfInBounds_toArray, List.set_cons_zero, List.set_cons_succ])
       refine wpAnyH_done (by kernel_rfl) ?_ _
       (try go_wp2_with fail)
       go_meet
       case rel =>
        exact ⟨v27.heap.size, _, _, rfl, cell_set g0 _, owns_mono (oo40.kept (setCell_grown _ ⟨v27.heap.size, 0, none⟩ _) (.inr nr40)) zWV, zr37, lt_set g0 _, zWVb.trans ((Y40.setCell (p := ⟨v27.heap.size, 0, none⟩) zr37 _).mono zWV)⟩
      refine AllReadyH.cons (o := ?_) ?_ (fun K hK => ?_) AllReadyH.nil
      rotate_left
      ·(simp only [List.getElem?_toArray, List.getElem?_cons_zero, List.getElem?_cons_succ]; rfl)
      go_simp
      (try go_wp2_with fail)
      refine hK.out _ _ ?_ (fun hHeld' => ?_)
      ·(try dsimp only)
       exact ⟨cell_later (Y0.alloc Y0.size _) c0, cell_later (Y0.alloc Y0.size _) c1, cell_later (Y0.alloc Y0.size _) c2⟩
      clear hK K hHeld
      have hHeld := hHeld'
      clear hHeld'
      (try simp only [Act.put, List.setIfInBounds_toArray, List.set_cons_zero, List.set_cons_succ])
      obtain ⟨v41, hU41⟩ : ∃ u, u = v0.alloc (.cells #[.slice none 0 0] 67) := ⟨_, rfl⟩
      have hb41 : Below v0.heap.size v0 v41 := by rw [hU41]; exact (Below.refl _ _).alloc (Nat.le_refl _) _
      have zs41 : v0.heap.size < v41.heap.size := by rw [hU41]; simp
      have Y41 := Y0.trans (hb41.mono Y0.size)
      have zy41 := Y0.size
      have rr41 : v41.heap[v0.heap.size]? = some (.cells #[.slice none 0 0] 67 (0, 0)) := by rw [hU41]; exact heap_alloc_new _ _
      have zr41 : V.heap.size ≤ v0.heap.size := Y0.size
      rw [← hU41]
      clear hU41
      refine wpAnyH_ready (rs := [0, 9]) (by kernel_rfl) (by simp) ?_
      refine AllReadyH.cons (o := ?_) ?_ (fun K hK => ?_) ?_
      rotate_left
      ·(simp only [List.getElem?_toArray, List.getElem?_cons_zero]; rfl)
      ·go_simp
       (try go_wp2_with fail)
       refine hK.out _ _ ?_ (fun hHeld' => ?_)
       ·(try dsimp only)
        exact ⟨cell_later (Y41.alloc Y41.size _) c0, cell_later (Y41.alloc Y41.size _) c1, cell_later (Y41.alloc Y41.size _) c2⟩
       clear hK K hHeld
       have hHeld := hHeld'
       clear hHeld'
       (try simp only [Act.put, List.setIfInBounds_toArray, List.set_cons_zero, List.set_cons_succ])
       obtain ⟨v42, hU42⟩ : ∃ u, u = v41.alloc (.cells #[] 3) := ⟨_, rfl⟩
       have hb42 : Below v41.heap.size v41 v42 := by rw [hU42]; exact (Below.refl _ _).alloc (Nat.le_refl _) _
       have zs42 : v41.heap.size < v42.heap.size := by rw [hU42]; simp
       have Y42 := Y41.trans (hb42.mono Y41.size)
       have zy42 := Y41.size
       have rr42 := (hb42.block v0.heap.size (Array.getElem?_eq_some_iff.1 rr41).1).trans rr41
       have oo42 : v42.ownsRow V.heap.size 3 1 (.slice (some ⟨v41.heap.size, 0, none⟩) 0 0) 0 [] := by rw [hU42]; exact owns_mono (owns_empty v41 3 1) Y41.size
       have nr42 : (Value.slice (some ⟨v41.heap.size, 0, none⟩) 0 0).ownBlock ≠ some (v0.heap.size) := fun e => by simp [Value.ownBlock] at e; omega
       rw [← hU42]
       clear hU42
       refine wpAnyH_ready (rs := [4, 9]) (by kernel_rfl) (by simp) ?_
       refine AllReadyH.cons (o := ?_) ?_ (fun K hK => ?_) ?_
       rotate_left
       ·(simp only [List.getElem?_toArray, List.getElem?_cons_zero, List.getElem?_cons_succ]; rfl)
       ·refine step_append_all rfl (.tmp 19) (.tmp 22) 25 rfl V.heap.size 3 j0 (.int .i64 0) 8 Try.underlying25 hj hy0 hy1 hy2 rfl (.slice (some ⟨v41.heap.size, 0, none⟩) 0 0) 0 [] (by simp [Act.eval]) oo42 q m dd ys (by simp [Act.eval]) HM.out (HATV.out.below Y42) HNIL.out (by unfold maxLen; omega) (by omega) Y42.size ?_
        intro r43 d43 v43 oo43 hg43 ht43
        simp only [Nat.zero_add, List.nil_append] at oo43 ht43 ⊢
        have Y43 := Y42.grown hg43 Y42.size (fun j hj => (oo42.lt j hj).1)
        have zy43 := Y42.size
        have zg43 := hg43.size
        have rr43 := (hg43.block v0.heap.size (Array.getElem?_eq_some_iff.1 rr42).1 (fun e => nr42 e.symm)).trans rr42
        have nr43 : (Value.slice r43 m d43).ownBlock ≠ some (v0.heap.size) := fun e => by
         rcases ht43 with h9 | h9
         ·exact nr42 (h9.symm.trans e)
         ·rw [h9] at e
          simp only [Option.some.injEq] at e
          have := (Array.getElem?_eq_some_iff.1 rr42).1
          omega
        refine hK.out _ _ ?_ (fun hHeld' => ?_)
        ·(try dsimp only)
         exact ⟨cell_later Y43 c0, cell_later Y43 c1, cell_later Y43 c2⟩
        clear hK K hHeld
        have hHeld := hHeld'
        clear hHeld'
        (try simp only [Act.put, List.setIfInBounds_toArray, List.set_cons_zero, List.set_cons_succ])
        refine wpAnyH_ready (rs := [9]) (by kernel_rfl) (by simp) ?_
        refine AllReadyH.cons (o := ?_) ?_ (fun K hK => ?_) AllReadyH.nil
        rotate_left
        ·(simp only [List.getElem?_toArray, List.getElem?_cons_zero, List.getElem?_cons_succ]; rfl)
        go_simp
        (try go_wp2_with fail)
        refine hK.out _ _ ?_ (fun hHeld' => ?_)
        ·(try dsimp only)
         exact ⟨cell_later (Y43.alloc Y43.size _) c0, cell_later (Y43.alloc Y43.size _) c1, cell_later (Y43.alloc Y43.size _) c2⟩
        clear hK K hHeld
        have hHeld := hHeld'
        clear hHeld'
        (try simp only [Act.put, List.setIfInBounds_toArray, List.set_cons_zero, List.set_cons_succ])
        obtain ⟨v44, hU44⟩ : ∃ u, u = v43.alloc (.cells #[.int .i64 x, .int .i64 y] 3) := ⟨_, rfl⟩
        have hb44 : Below v43.heap.size v43 v44 := by rw [hU44]; exact (Below.refl _ _).alloc (Nat.le_refl _) _
        have zs44 : v43.heap.size < v44.heap.size := by rw [hU44]; simp
        have Y44 := Y43.trans (hb44.mono Y43.size)
        have zy44 := Y43.size
        have oo44 := owns_below oo43 hb44
        have rr44 := (hb44.block v0.heap.size (Array.getElem?_eq_some_iff.1 rr43).1).trans rr43
        have pa44 : v44.cell? ⟨v43.heap.size, 0, none⟩ = some (.int .i64 x) := by rw [hU44]; exact pair0 v43 _ _ _
        have pb44 : v44.cell? ⟨v43.heap.size, 1, none⟩ = some (.int .i64 y) := by rw [hU44]; exact pair1 v43 _ _ _
        have pp44 : At v44 (some ⟨v43.heap.size, 0, none⟩) [x, y] := at_two pa44 pb44
        have np44 : (Value.slice r43 m d43).ownBlock ≠ some (v43.heap.size) := fun e => by have h9 := (oo43.lt _ e).2; omega
        rw [← hU44]
        clear hU44
        refine wpAnyH_ready (rs := [10]) (by kernel_rfl) (by simp) ?_
        refine AllReadyH.cons (o := ?_) ?_ (fun K hK => ?_) AllReadyH.nil
        rotate_left
        ·(simp only [List.getElem?_toArray, List.getElem?_cons_zero, List.getElem?_cons_succ]; rfl)
        refine step_append_all rfl (.tmp 23) (.tmp 28) 25 rfl V.heap.size 3 j0 (.int .i64 0) 8 Try.underlying25 hj hy0 hy1 hy2 rfl (.slice r43 m d43) m (ys.map (.int .i64)) (by simp [Act.eval]) oo44 (some ⟨v43.heap.size, 0, none⟩) 2 2 [x, y] (by simp [Act.eval]) rfl pp44 (fun h => by cases h) (by unfold maxLen; omega) (by omega) Y44.size ?_
        intro r45 d45 v45 oo45 hg45 ht45
        have Y45 := Y44.grown hg45 Y44.size (fun j hj => (oo44.lt j hj).1)
        have zy45 := Y44.size
        have zg45 := hg45.size
        have rr45 := (hg45.block v0.heap.size (Array.getElem?_eq_some_iff.1 rr44).1 (fun e => nr43 e.symm)).trans rr44
        have nr45 : (Value.slice r45 (m + 2) d45).ownBlock ≠ some (v0.heap.size) := fun e => by
         rcases ht45 with h9 | h9
         ·exact nr43 (h9.symm.trans e)
         ·rw [h9] at e
          simp only [Option.some.injEq] at e
          have := (Array.getElem?_eq_some_iff.1 rr44).1
          omega
        refine hK.out _ _ ?_ (fun hHeld' => ?_)
        ·(try dsimp only)
         exact ⟨cell_later Y45 c0, cell_later Y45 c1, cell_later Y45 c2⟩
        clear hK K hHeld
        have hHeld := hHeld'
        clear hHeld'
        (try simp only [Act.put, List.setIfInBounds_toArray, List.set_cons_zero, List.set_cons_succ])
        refine wpAnyH_take (i := 11) (oi := ?_) (v := ?_) ?_ (by kernel_rfl) (by kernel_rfl) (by kernel_rfl) ?_ (Or.inl ⟨?_, ?_⟩) (by assumption) ?_
        rotate_left 2
        ·(simp only [List.getElem?_toArray, List.getElem?_cons_zero, List.getElem?_cons_succ]; rfl)
        ·exact fun _ _ _ h => h
        ·rfl
        ·(intro wS hSw; (try dsimp only at hSw); go_simp; (try with_reducible rfl))
        (try simp only [Act.put, List.setIfInBounds_toArray, List.set_cons_zero, List.set_cons_succ])
        have g0 : v45.cell? ⟨v0.heap.size, 0, none⟩ = some (.slice none 0 0) := by rw [cell_of_row _ _ 0 _ _ (0, 0) rr45]; rfl
        have g1 : v45.frozen? ⟨v0.heap.size, 0, none⟩ = false := frozen_of_row _ _ 0 _ _ rr45
        refine wpAnyH_ready (rs := [13]) (by kernel_rfl) (by simp) ?_
        refine AllReadyH.cons (o := ?_) ?_ (fun K hK => ?_) AllReadyH.nil
        rotate_left
        ·(simp only [List.getElem?_toArray, List.getElem?_cons_zero, List.getElem?_cons_succ]; rfl)
        go_simp
        (try go_wp2_with fail)
        refine hK.out _ _ ?_ (fun hHeld' => ?_)
        ·(try dsimp only)
         exact ⟨cell_later (Y45.setCell (p := ⟨v0.heap.size, 0, none⟩) zr41 _) c0, cell_later (Y45.setCell (p := ⟨v0.heap.size, 0, none⟩) zr41 _) c1, cell_later (Y45.setCell (p := ⟨v0.heap.size, 0, none⟩) zr41 _) c2⟩
        clear hK K hHeld
        have hHeld := hHeld'
        clear hHeld'
        (try simp only [Act.put, List.setIfInBounds_toArray, List.set_cons_zero, List.set_cons_succ])
        refine wpAnyH_done (by kernel_rfl) ?_ _
        (try go_wp2_with fail)
        go_meet
        case rel =>
         exact ⟨v0.heap.size, _, _, rfl, cell_set g0 _, owns_mono (oo45.kept (setCell_grown _ ⟨v0.heap.size, 0, none⟩ _) (.inr nr45)) zWV, zr41, lt_set g0 _, zWVb.trans ((Y45.setCell (p := ⟨v0.heap.size, 0, none⟩) zr41 _).mono zWV)⟩
       refine AllReadyH.cons (o := ?_) ?_ (fun K hK => ?_) AllReadyH.nil
       rotate_left
       ·(simp only [List.getElem?_toArray, List.getElem?_cons_zero, List.getElem?_cons_succ]; rfl)
       go_simp
       (try go_wp2_with fail)
       refine hK.out _ _ ?_ (fun hHeld' => ?_)
       ·(try dsimp only)
        exact ⟨cell_later (Y42.alloc Y42.size _) c0, cell_later (Y42.alloc Y42.size _) c1, cell_later (Y42.alloc Y42.size _) c2⟩
       clear hK K hHeld
       have hHeld := hHeld'
       clear hHeld'
       (try simp only [Act.put, List.setIfInBounds_toArray, List.set_cons_zero, List.set_cons_succ])
       obtain ⟨v46, hU46⟩ : ∃ u, u = v42.alloc (.cells #[.int .i64 x, .int .i64 y] 3) := ⟨_, rfl⟩
       have hb46 : Below v42.heap.size v42 v46 := by rw [hU46]; exact (Below.refl _ _).alloc (Nat.le_refl _) _
       have zs46 : v42.heap.size < v46.heap.size := by rw [hU46]; simp
       have Y46 := Y42.trans (hb46.mono Y42.size)
       have zy46 := Y42.size
       have oo46 := owns_below oo42 hb46
       have rr46 := (hb46.block v0.heap.size (Array.getElem?_eq_some_iff.1 rr42).1).trans rr42
       have pa46 : v46.cell? ⟨v42.heap.size, 0, none⟩ = some (.int .i64 x) := by rw [hU46]; exact pair0 v42 _ _ _
       have pb46 : v46.cell? ⟨v42.heap.size, 1, none⟩ = some (.int .i64 y) := by rw [hU46]; exact pair1 v42 _ _ _
       have pp46 : At v46 (some ⟨v42.heap.size, 0, none⟩) [x, y] := at_two pa46 pb46
       have np46 : (Value.slice (some ⟨v41.heap.size, 0, none⟩) 0 0).ownBlock ≠ some (v42.heap.size) := fun e => by have h9 := (oo42.lt _ e).2; omega
       rw [← hU46]
       clear hU46
       refine wpAnyH_ready (rs := [4]) (by kernel_rfl) (by simp) ?_
       refine AllReadyH.cons (o := ?_) ?_ (fun K hK => ?_) AllReadyH.nil
       rotate_left
       ·(simp only [List.getElem?_toArray, List.getElem?_cons_zero, List.getElem?_cons_succ]; rfl)
       refine step_append_all rfl (.tmp 19) (.tmp 22) 25 rfl V.heap.size 3 j0 (.int .i64 0) 8 Try.underlying25 hj hy0 hy1 hy2 rfl (.slice (some ⟨v41.heap.size, 0, none⟩) 0 0) 0 [] (by simp [Act.eval]) oo46 q m dd ys (by simp [Act.eval]) HM.out (HATV.out.below Y46) HNIL.out (by unfold maxLen; omega) (by omega) Y46.size ?_
       intro r47 d47 v47 oo47 hg47 ht47
       simp only [Nat.zero_add, List.nil_append] at oo47 ht47 ⊢
       have Y47 := Y46.grown hg47 Y46.size (fun j hj => (oo46.lt j hj).1)
       have zy47 := Y46.size
       have zg47 := hg47.size
       have pp47 := at_far pp46 hg47 np46
       have np47 : (Value.slice r47 m d47).ownBlock ≠ some (v42.heap.size) := fun e => by
        rcases ht47 with h9 | h9
        ·exact np46 (h9.symm.trans e)
        ·rw [h9] at e
         simp only [Option.some.injEq] at e
         have := World.block_lt_of_cell? _ _ (at_cell0 pp46)
         simp only at this
         omega
       have rr47 := (hg47.block v0.heap.size (Array.getElem?_eq_some_iff.1 rr46).1 (fun e => nr42 e.symm)).trans rr46
       have nr47 : (Value.slice r47 m d47).ownBlock ≠ some (v0.heap.size) := fun e => by
        rcases ht47 with h9 | h9
        ·exact nr42 (h9.symm.trans e)
        ·rw [h9] at e
         simp only [Option.some.injEq] at e
         have := (Array.getElem?_eq_some_iff.1 rr46).1
         omega
       refine hK.out _ _ ?_ (fun hHeld' => ?_)
       ·(try dsimp only)
        exact ⟨cell_later Y47 c0, cell_later Y47 c1, cell_later Y47 c2⟩
       clear hK K hHeld
       have hHeld := hHeld'
       clear hHeld'
       (try simp only [Act.put, List.setIfInBounds_toArray, List.set_cons_zero, List.set_cons_succ])
       refine wpAnyH_ready (rs := [10]) (by kernel_rfl) (by simp) ?_
       refine AllReadyH.cons (o := ?_) ?_ (fun K hK => ?_) AllReadyH.nil
       rotate_left
       ·(simp only [List.getElem?_toArray, List.getElem?_cons_zero, List.getElem?_cons_succ]; rfl)
       refine step_append_all rfl (.tmp 23) (.tmp 28) 25 rfl V.heap.size 3 j0 (.int .i64 0) 8 Try.underlying25 hj hy0 hy1 hy2 rfl (.slice r47 m d47) m (ys.map (.int .i64)) (by simp [Act.eval]) oo47 (some ⟨v42.heap.size, 0, none⟩) 2 2 [x, y] (by simp [Act.eval]) rfl pp47 (fun h => by cases h) (by unfold maxLen; omega) (by omega) Y47.size ?_
       intro r48 d48 v48 oo48 hg48 ht48
       have Y48 := Y47.grown hg48 Y47.size (fun j hj => (oo47.lt j hj).1)
       have zy48 := Y47.size
       have zg48 := hg48.size
       have rr48 := (hg48.block v0.heap.size (Array.getElem?_eq_some_iff.1 rr47).1 (fun e => nr47 e.symm)).trans rr47
       have nr48 : (Value.slice r48 (m + 2) d48).ownBlock ≠ some (v0.heap.size) := fun e => by
        rcases ht48 with h9 | h9
        ·exact nr47 (h9.symm.trans e)
        ·rw [h9] at e
         simp only [Option.some.injEq] at e
         have := (Array.getElem?_eq_some_iff.1 rr47).1
         omega
       refine hK.out _ _ ?_ (fun hHeld' => ?_)
       ·(try dsimp only)
        exact ⟨cell_later Y48 c0, cell_later Y48 c1, cell_later Y48 c2⟩
       clear hK K hHeld
       have hHeld := hHeld'
       clear hHeld'
       (try simp only [Act.put, List.setIfInBounds_toArray, List.set_cons_zero, List.set_cons_succ])
       refine wpAnyH_take (i := 11) (oi := ?_) (v := ?_) ?_ (by kernel_rfl) (by kernel_rfl) (by kernel_rfl) ?_ (Or.inl ⟨?_, ?_⟩) (by assumption) ?_
       rotate_left 2
       ·(simp only [List.getElem?_toArray, List.getElem?_cons_zero, List.getElem?_cons_succ]; rfl)
       ·exact fun _ _ _ h => h
       ·rfl
       ·(intro wS hSw; (try dsimp only at hSw); go_simp; (try with_reducible rfl))
       (try simp only [Act.put, List.setIfInBounds_toArray, List.set_cons_zero, List.set_cons_succ])
       have g0 : v48.cell? ⟨v0.heap.size, 0, none⟩ = some (.slice none 0 0) := by rw [cell_of_row _ _ 0 _ _ (0, 0) rr48]; rfl
       have g1 : v48.frozen? ⟨v0.heap.size, 0, none⟩ = false := frozen_of_row _ _ 0 _ _ rr48
       refine wpAnyH_ready (rs := [13]) (by kernel_rfl) (by simp) ?_
       refine AllReadyH.cons (o := ?_) ?_ (fun K hK => ?_) AllReadyH.nil
       rotate_left
       ·(simp only [List.getElem?_toArray, List.getElem?_cons_zero, List.getElem?_cons_succ]; rfl)
       go_simp
       (try go_wp2_with fail)
       refine hK.out _ _ ?_ (fun hHeld' => ?_)
       ·(try dsimp only)
        exact ⟨cell_later (Y48.setCell (p := ⟨v0.heap.size, 0, none⟩) zr41 _) c0, cell_later (Y48.setCell (p := ⟨v0.heap.size, 0, none⟩) zr41 _) c1, cell_later (Y48.setCell (p := ⟨v0.heap.size, 0, none⟩) zr41 _) c2⟩
       clear hK K hHeld
       have hHeld := hHeld'
       clear hHeld'
       (try simp only [Act.put, List.setIfInBounds_toArray, List.set_cons_zero, List.set_cons_succ])
       refine wpAnyH_done (by kernel_rfl) ?_ _
       (try go_wp2_with fail)
       go_meet
       case rel =>
        exact ⟨v0.heap.size, _, _, rfl, cell_set g0 _, owns_mono (oo48.kept (setCell_grown _ ⟨v0.heap.size, 0, none⟩ _) (.inr nr48)) zWV, zr41, lt_set g0 _, zWVb.trans ((Y48.setCell (p := ⟨v0.heap.size, 0, none⟩) zr41 _).mono zWV)⟩
      refine AllReadyH.cons (o := ?_) ?_ (fun K hK => ?_) AllReadyH.nil
      rotate_left
      ·(simp only [List.getElem?_toArray, List.getElem?_cons_zero, List.getElem?_cons_succ]; rfl)
      go_simp
      (try go_wp2_with fail)
      refine hK.out _ _ ?_ (fun hHeld' => ?_)
      ·(try dsimp only)
       exact ⟨cell_later (Y41.alloc Y41.size _) c0, cell_later (Y41.alloc Y41.size _) c1, cell_later (Y41.alloc Y41.size _) c2⟩
      clear hK K hHeld
      have hHeld := hHeld'
      clear hHeld'
      (try simp only [Act.put, List.setIfInBounds_toArray, List.set_cons_zero, List.set_cons_succ])
      obtain ⟨v49, hU49⟩ : ∃ u, u = v41.alloc (.cells #[.int .i64 x, .int .i64 y] 3) := ⟨_, rfl⟩
      have hb49 : Below v41.heap.size v41 v49 := by rw [hU49]; exact (Below.refl _ _).alloc (Nat.le_refl _) _
      have zs49 : v41.heap.size < v49.heap.size := by rw [hU49]; simp
      have Y49 := Y41.trans (hb49.mono Y41.size)
      have zy49 := Y41.size
      have rr49 := (hb49.block v0.heap.size (Array.getElem?_eq_some_iff.1 rr41).1).trans rr41
      have pa49 : v49.cell? ⟨v41.heap.size, 0, none⟩ = some (.int .i64 x) := by rw [hU49]; exact pair0 v41 _ _ _
      have pb49 : v49.cell? ⟨v41.heap.size, 1, none⟩ = some (.int .i64 y) := by rw [hU49]; exact pair1 v41 _ _ _
      have pp49 : At v49 (some ⟨v41.heap.size, 0, none⟩) [x, y] := at_two pa49 pb49
      rw [← hU49]
      clear hU49
      refine wpAnyH_ready (rs := [0]) (by kernel_rfl) (by simp) ?_
      refine AllReadyH.cons (o := ?_) ?_ (fun K hK => ?_) AllReadyH.nil
      rotate_left
      ·(simp only [List.getElem?_toArray, List.getElem?_cons_zero]; rfl)
      go_simp
      (try go_wp2_with fail)
      refine hK.out _ _ ?_ (fun hHeld' => ?_)
      ·(try dsimp only)
       exact ⟨cell_later (Y49.alloc Y49.size _) c0, cell_later (Y49.alloc Y49.size _) c1, cell_later (Y49.alloc Y49.size _) c2⟩
      clear hK K hHeld
      have hHeld := hHeld'
      clear hHeld'
      (try simp only [Act.put, List.setIfInBounds_toArray, List.set_cons_zero, List.set_cons_succ])
      obtain ⟨v50, hU50⟩ : ∃ u, u = v49.alloc (.cells #[] 3) := ⟨_, rfl⟩
      have hb50 : Below v49.heap.size v49 v50 := by rw [hU50]; exact (Below.refl _ _).alloc (Nat.le_refl _) _
      have zs50 : v49.heap.size < v50.heap.size := by rw [hU50]; simp
      have Y50 := Y49.trans (hb50.mono Y49.size)
      have zy50 := Y49.size
      have pp50 := pp49.below hb50
      have rr50 := (hb50.block v0.heap.size (Array.getElem?_eq_some_iff.1 rr49).1).trans rr49
      have oo50 : v50.ownsRow V.heap.size 3 1 (.slice (some ⟨v49.heap.size, 0, none⟩) 0 0) 0 [] := by rw [hU50]; exact owns_mono (owns_empty v49 3 1) Y49.size
      have np50 : (Value.slice (some ⟨v49.heap.size, 0, none⟩) 0 0).ownBlock ≠ some (v41.heap.size) := fun e => by simp [Value.ownBlock] at e; omega
      have nr50 : (Value.slice (some ⟨v49.heap.size, 0, none⟩) 0 0).ownBlock ≠ some (v0.heap.size) := fun e => by simp [Value.ownBlock] at e; omega
      rw [← hU50]
      clear hU50
      refine wpAnyH_ready (rs := [4]) (by kernel_rfl) (by simp) ?_
      refine AllReadyH.cons (o := ?_) ?_ (fun K hK => ?_) AllReadyH.nil
      rotate_left
      ·(simp only [List.getElem?_toArray, List.getElem?_cons_zero, List.getElem?_cons_succ]; rfl)
      refine step_append_all rfl (.tmp 19) (.tmp 22) 25 rfl V.heap.size 3 j0 (.int .i64 0) 8 Try.underlying25 hj hy0 hy1 hy2 rfl (.slice (some ⟨v49.heap.size, 0, none⟩) 0 0) 0 [] (by simp [Act.eval]) oo50 q m dd ys (by simp [Act.eval]) HM.out (HATV.out.below Y50) HNIL.out (by unfold maxLen; omega) (by omega) Y50.size ?_
      intro r51 d51 v51 oo51 hg51 ht51
      simp only [Nat.zero_add, List.nil_append] at oo51 ht51 ⊢
      have Y51 := Y50.grown hg51 Y50.size (fun j hj => (oo50.lt j hj).1)
      have zy51 := Y50.size
      have zg51 := hg51.size
      have pp51 := at_far pp50 hg51 np50
      have np51 : (Value.slice r51 m d51).ownBlock ≠ some (v41.heap.size) := fun e => by
       rcases ht51 with h9 | h9
       ·exact np50 (h9.symm.trans e)
       ·rw [h9] at e
        simp only [Option.some.injEq] at e
        have := World.block_lt_of_cell? _ _ (at_cell0 pp50)
        simp only at this
        omega
      have rr51 := (hg51.block v0.heap.size (Array.getElem?_eq_some_iff.1 rr50).1 (fun e => nr50 e.symm)).trans rr50
      have nr51 : (Value.slice r51 m d51).ownBlock ≠ some (v0.heap.size) := fun e => by
       rcases ht51 with h9 | h9
       ·exact nr50 (h9.symm.trans e)
       ·rw [h9] at e
        simp only [Option.some.injEq] at e
        have := (Array.getElem?_eq_some_iff.1 rr50).1
        omega
      refine hK.out _ _ ?_ (fun hHeld' => ?_)
      ·(try dsimp only)
       exact ⟨cell_later Y51 c0, cell_later Y51 c1, cell_later Y51 c2⟩
      clear hK K hHeld
      have hHeld := hHeld'
      clear hHeld'
      (try simp only [Act.put, List.setIfInBounds_toArray, List.set_cons_zero, List.set_cons_succ])
      refine wpAnyH_ready (rs := [10]) (by kernel_rfl) (by simp) ?_
      refine AllReadyH.cons (o := ?_) ?_ (fun K hK => ?_) AllReadyH.nil
      rotate_left
      ·(simp only [List.getElem?_toArray, List.getElem?_cons_zero, List.getElem?_cons_succ]; rfl)
      refine step_append_all rfl (.tmp 23) (.tmp 28) 25 rfl V.heap.size 3 j0 (.int .i64 0) 8 Try.underlying25 hj hy0 hy1 hy2 rfl (.slice r51 m d51) m (ys.map (.int .i64)) (by simp [Act.eval]) oo51 (some ⟨v41.heap.size, 0, none⟩) 2 2 [x, y] (by simp [Act.eval]) rfl pp51 (fun h => by cases h) (by unfold maxLen; omega) (by omega) Y51.size ?_
      intro r52 d52 v52 oo52 hg52 ht52
      have Y52 := Y51.grown hg52 Y51.size (fun j hj => (oo51.lt j hj).1)
      have zy52 := Y51.size
      have zg52 := hg52.size
      have rr52 := (hg52.block v0.heap.size (Array.getElem?_eq_some_iff.1 rr51).1 (fun e => nr51 e.symm)).trans rr51
      have nr52 : (Value.slice r52 (m + 2) d52).ownBlock ≠ some (v0.heap.size) := fun e => by
       rcases ht52 with h9 | h9
       ·exact nr51 (h9.symm.trans e)
       ·rw [h9] at e
        simp only [Option.some.injEq] at e
        have := (Array.getElem?_eq_some_iff.1 rr51).1
        omega
      refine hK.out _ _ ?_ (fun hHeld' => ?_)
      ·(try dsimp only)
       exact ⟨cell_later Y52 c0, cell_later Y52 c1, cell_later Y52 c2⟩
      clear hK K hHeld
      have hHeld := hHeld'
      clear hHeld'
      (try simp only [Act.put, List.setIfInBounds_toArray, List.set_cons_zero, List.set_cons_succ])
      refine wpAnyH_take (i := 11) (oi := ?_) (v := ?_) ?_ (by kernel_rfl) (by kernel_rfl) (by kernel_rfl) ?_ (Or.inl ⟨?_, ?_⟩) (by assumption) ?_
      rotate_left 2
      ·(simp only [List.getElem?_toArray, List.getElem?_cons_zero, List.getElem?_cons_succ]; rfl)
      ·exact fun _ _ _ h => h
      ·rfl
      ·(intro wS hSw; (try dsimp only at hSw); go_simp; (try with_reducible rfl))
      (try simp only [Act.put, List.setIfInBounds_toArray, List.set_cons_zero, List.set_cons_succ])
      have g0 : v52.cell? ⟨v0.heap.size, 0, none⟩ = some (.slice none 0 0) := by rw [cell_of_row _ _ 0 _ _ (0, 0) rr52]; rfl
      have g1 : v52.frozen? ⟨v0.heap.size, 0, none⟩ = false := frozen_of_row _ _ 0 _ _ rr52
      refine wpAnyH_ready (rs := [13]) (by kernel_rfl) (by simp) ?_
      refine AllReadyH.cons (o := ?_) ?_ (fun K hK => ?_) AllReadyH.nil
      rotate_left
      ·(simp only [List.getElem?_toArray, List.getElem?_cons_zero, List.getElem?_cons_succ]; rfl)
      go_simp
      (try go_wp2_with fail)
      refine hK.out _ _ ?_ (fun hHeld' => ?_)
      ·(try dsimp only)
       exact ⟨cell_later (Y52.setCell (p := ⟨v0.heap.size, 0, none⟩) zr41 _) c0, cell_later (Y52.setCell (p := ⟨v0.heap.size, 0, none⟩) zr41 _) c1, cell_later (Y52.setCell (p := ⟨v0.heap.size, 0, none⟩) zr41 _) c2⟩
      clear hK K hHeld
      have hHeld := hHeld'
      clear hHeld'
      (try simp only [Act.put, List.setIfInBounds_toArray, List.set_cons_zero, List.set_cons_succ])
      refine wpAnyH_done (by kernel_rfl) ?_ _
      (try go_wp2_with fail)
      go_meet
      case rel =>
       exact ⟨v0.heap.size, _, _, rfl, cell_set g0 _, owns_mono (oo52.kept (setCell_grown _ ⟨v0.heap.size, 0, none⟩ _) (.inr nr52)) zWV, zr41, lt_set g0 _, zWVb.trans ((Y52.setCell (p := ⟨v0.heap.size, 0, none⟩) zr41 _).mono zWV)⟩
     case rest =>
      obtain ⟨Rb, r2, d2, rfl, u0, ho2, zRb, zRc, hbT⟩ := hcut
      obtain ⟨w3, rfl⟩ : ∃ x, x = wc := ⟨_, rfl⟩
      have HL : Hid ((ys ++ [x, y]).length = m + 2) := by show _ = _; rw [List.length_append, HM.out]; rfl
      rw [← List.map_append] at ho2
      obtain ⟨M, hM⟩ : ∃ M, M = m + 2 := ⟨_, rfl⟩
      rw [← hM] at ho2 HGC HL u0
      have hM8 : M ≤ 8 := by omega
      obtain ⟨L, hL⟩ : ∃ L, L = ys ++ [x, y] := ⟨_, rfl⟩
      rw [← hL] at ho2 HL HS
      have HO3 := Hid.mk ho2
      clear hL hM ho2 HNIL HATV HNB hcx hwx hvx c0 c1 c2
      have t0 := cell_later hbT hv.cell0
      have t1 := frozen_later hbT hv.cell0 hv.frozen0
      obtain ⟨hvc, hbc⟩ := hv.cols hbT (M : Int)
      have HVC := Hid.mk hvc
      have HBC := Hid.mk hbc
      have hne : w1.heap.size ≠ Rb := by omega
      go_upto_region 9 with fail
      obtain ⟨X, hX⟩ : ∃ X, X = w3.setCell ⟨w1.heap.size, 0, none⟩ (.int .i64 (M : Int)) := ⟨_, rfl⟩
      have hX0 := hX
      rw [← hX]
      rw [← hX] at HBC
      have hvX := HVC.out.below HBC.out
      have x1 := hvX.cell1
      have x1f := hvX.frozen1
      have u1 : X.cell? ⟨Rb, 0, none⟩ = some (.slice r2 M d2) := by rw [hX0]; exact keep_far u0 (fun e => hne e.symm)
      have zX : X.heap.size = w3.heap.size := by rw [hX0]; simp [World.setCell]
      have zY : w1.heap.size + 1 ≤ X.heap.size + 1 := by have := hbT.size; omega
      have HOX : Hid (X.ownsRow (wr.setCell ⟨w1.heap.size, 0, none⟩ (.int .i64 (M : Int))).heap.size 3 1 (.slice r2 M d2) M (L.map (.int .i64))) := by
       show World.ownsRow _ _ _ _ _ _ _
       rw [show (wr.setCell ⟨w1.heap.size, 0, none⟩ (.int .i64 (M : Int))).heap.size = wr.heap.size by simp [World.setCell], hX0]
       exact HO3.out.kept (setCell_grown _ _ _) (.inr (fun e => by have h9 := (HO3.out.lt w1.heap.size e).1; omega))
      have HBW : Hid (Below w1.heap.size w1 (wr.setCell ⟨w1.heap.size, 0, none⟩ (.int .i64 (M : Int)))) := hbw.setCell (Nat.le_refl _) _
      have HVX := Hid.mk hvX
      clear hX hX0 hvX hvc hbc t0 t1 u0 HO3 hbT hv hbw
      go_wp2_with (at_builtin; refine wpList_append_lies _ rfl (.tmp 36) (.tmp 39) 30 rfl (w1.heap.size + 1) 69 i0 (.agg #[.slice none 0 0, .int .i64 0]) 2 32 Try.underlying30 hi hz0 hz1 hz2 rfl (by decide) (.slice r' k d') k cells (by simp [Act.eval]) (HVX.out.own.alloc _) ⟨X.heap.size, 0, none⟩ 1 1 [.slice r2 M d2, .int .i64 1] (by simp [Act.eval]) rfl (by simpa using news_at X #[.slice r2 M d2, .int .i64 1] 69) (by intro u hu; simp at hu; rcases hu with rfl | rfl <;> rfl) (by decide) (by unfold maxLen; omega) (by omega) (by simpa using zY) (X.heap.size + 1) (by simp) ?_; intro g4 cap4 w4 hown4 hgrow4 hat4 hlt4; obtain ⟨s1, s2, hv4⟩ := HVC.out.pushed HBC.out HL.out HOX.out hown4 hgrow4 hat4 hlt4; have HV4 := Hid.mk hv4; have HG4 := Hid.mk hgrow4; clear hv4 hown4 hgrow4 hat4 hlt4)
      have HB := Hid.mk (HVC.out.pushed_below (v := .slice (some ⟨g4, 0, none⟩) (k + 1) cap4) HBC.out HG4.out HBW.out (Nat.le_refl _))
      have HV : Hid (TabVar (w4.setCell ⟨w1.heap.size, 1, none⟩ (.slice (some ⟨g4, 0, none⟩) (k + 1) cap4)) w1.heap.size (gaC ts (k + 1)) (some ⟨g4, 0, none⟩) (k + 1) cap4 ((gaRows ts).take (k + 1)) (cells ++ [.slice r2 M d2, .int .i64 1])) := by show TabVar _ _ _ _ _ _ _ _; rw [HS.out, HGC.out]; exact HV4.out
      clear HV4 HG4 HVX HVC HBC HOX HBW
      go_roundw
      case rel => exact ⟨k + 1, _, _, _, by omega, by go_num, HV.out, True.intro, HB.out⟩
      case measure => simp [intOf]; omega
    ·obtain rfl : k = n := by omega
     have hlen : (gaRows ts).take k = gaRows ts := List.take_of_length_le (by rw [gaRows_length]; omega)
     rw [hlen, gaC_end hz] at hv
     have HGB := Hid.mk (gaB_yes HG.out)
     have HLN : Hid ((gaRows ts).length = k) := by show _ = _; rw [gaRows_length]; exact hz
     have HSM : Hid (∀ i, i < k → (wat (gaRows ts) i).1.length ≤ 9223372036854775807) := fun i hi => by
      rw [gaRows_at i (by omega)]
      show (gaRow (gat ts i)).length ≤ _
      have h6 := good_len (goodV_at HG.out i (by omega)).1
      rw [gaRow_length]
      omega
     obtain ⟨P, hP⟩ : ∃ P, P = gaP ts := ⟨_, rfl⟩
     have HP := Hid.mk hP
     rw [← hP] at hv HGB
     have t0 := hv.cell0
     have t1 := hv.cell1
     have HV := Hid.mk hv
     clear hlen hv hP
     go_wp2_with fail
     refine (specGoodTable_any _ _ _ (gaRows ts) _ _ HLN.out (by omega) (HV.out.2.atW HSM.out)).mono ?_
     rintro e w5 ⟨rfl, hb5⟩
     rw [← HGB.out]
     have B5 := B3.trans (hb5.mono B3.size)
     replace f0 := frozen_later hb5 e0 f0
     replace f1 := frozen_later hb5 e1 f1
     replace e0 := cell_later hb5 e0
     replace e1 := cell_later hb5 e1
     replace t0 := cell_later hb5 t0
     replace t1 := cell_later hb5 t1
     have HV5 := Hid.mk (HV.out.below hb5)
     clear HV hb5
     cases hgb : gaB ts with
     | false =>
      have HGF := Hid.mk hgb
      clear hgb
      go_wp2
      refine bodyPost_ret (v := .tuple #[.agg #[.int .i64 0, .slice none 0 0], .bool false]) (by simp [results, Try.results25, go_sem, e0, e1]) rfl ⟨TabAns.zero (HGF.out) rfl, (B5.setCell (by simp) _).setCell (by simp) _⟩
     | true =>
      have HGF := Hid.mk hgb
      clear hgb
      go_wp2
      refine bodyPost_ret (v := .tuple #[.agg #[.int .i64 P, .slice r' k d'], .bool true]) (by simp [results, Try.results25, go_sem, e0, e1]) rfl ⟨?_, (B5.setCell (by simp) _).setCell (by simp) _⟩
      show TabAns _ _ _ _ _ _
      rw [HGF.out, ← HP.out]
      refine ⟨r', k, d', cells, rfl, ?_⟩
      exact ((HV5.out.2.setCell (a0 := ⟨w.heap.size, 0, none⟩) (.inl (by simp; omega)) _).setCell (a0 := ⟨w.heap.size, 1, none⟩) (.inl (by simp; omega)) _).widen (by omega) (by simp [World.setCell]) (Nat.le_refl _)

end Go.Proofs.Ytlfljfmhhnoinab
