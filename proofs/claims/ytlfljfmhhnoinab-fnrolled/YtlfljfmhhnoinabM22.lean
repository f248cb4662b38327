/- Contract of spec.l5Put. -/
import Derived.Test.YtlfljfmhhnoinabM6
import Derived.Test.YtlfljfmhhnoinabM8
import Derived.Test.YtlfljfmhhnoinabM21
import Derived.Test.YtlfljfmhhnoinabM19
import Derived.Test.YtlfljfmhhnoinabM16
import Derived.Test.YtlfljfmhhnoinabM18
import Derived.Deep.AppendLies
namespace Go.Proofs.Ytlfljfmhhnoinab
open Go.RowKit

theorem atN_cells {w : World} {b off : Nat} {ts : List GRow} (h : AtN w (some ⟨b, off, none⟩) ts) : ∃ cs, MeansN w cs ts ∧ ∀ j u, cs[j]? = some u → w.cell? ⟨b, off + j, none⟩ = some u := by
  rcases h with rfl | ⟨b', off', cs, he, hm, hc⟩
  ·exact ⟨[], trivial, fun j u h => by simp at h⟩
  ·simp only [Option.some.injEq, Addr.mk.injEq, and_true] at he
   obtain ⟨rfl, rfl⟩ := he
   exact ⟨cs, hm, hc⟩
theorem oneV_no {zs : List Int} {x : Amt} (h : x = (0, 0)) : oneV zs x = [] := if_pos h
theorem oneV_yes {zs : List Int} {x : Amt} (h : x ≠ (0, 0)) : oneV zs x = [(zs, x)] := if_neg h
theorem InA.wrap1 {x y : Amt} (h : InA 2000000000000000000 x) (k : InA 2000000000000000000 y) : IntKind.i64.wrap (x.1 + y.1) = x.1 + y.1 ∧ IntKind.i64.wrap (x.2 + y.2) = x.2 + y.2 := by
  obtain ⟨h1, h2, h3, h4⟩ := h
  obtain ⟨k1, k2, k3, k4⟩ := k
  exact ⟨IntWalk.i64_in _ (by omega), IntWalk.i64_in _ (by omega)⟩

set_option maxRecDepth 100000 in
set_option maxHeartbeats 8000000 in
theorem l5Put_some (b off : Nat) (a' : Option Addr) (n m c c' : Nat) (ts : List GRow) (zs : List Int) (x y : Int) (w : World) (hz : ts.length = n) (hz' : zs.length = m) (hn : n ≤ 1048576) (hcap : n ≤ c) (l6 : m ≤ 6) (hnil : a' = none → c' = 0)
   (hgr : ∀ k, k < n → (gat ts k).1.length ≤ 6 ∧ InA 2000000000000000000 (gat ts k).2) (hx : InA 2000000000000000000 (x, y)) (ha : AtN w (some ⟨b, off, none⟩) ts) (ha' : At w a' zs) :
   Calls Try.prog 40 #[.slice (some ⟨b, off, none⟩) n c, .agg #[.slice a' m c', .int .i64 x, .int .i64 y]] w fun e w' => ∃ r k d, e = .returned (.slice r k d) ∧ (putV ts zs (x, y)).length = k ∧ Formed r k d ∧ AtN w' r (putV ts zs (x, y)) ∧ Below w.heap.size w w' := by
  obtain ⟨i0, hi, hz0, hz1, hz2⟩ := info_parts Try.infoV
  obtain ⟨W, hW⟩ : ∃ W, W = w.alloc (.cells #[.slice a' m c', .int .i64 x, .int .i64 y] 73) := ⟨_, rfl⟩
  have zW : W.heap.size = w.heap.size + 1 := by rw [hW]; simp
  have B0 : Below w.heap.size w W := by rw [hW]; exact (Below.refl _ _).alloc (Nat.le_refl _) _
  have q0 : W.heap[w.heap.size]? = some (.cells #[.slice a' m c', .int .i64 x, .int .i64 y] 73 (0, 0)) := by rw [hW]; exact heap_alloc_new w _
  obtain ⟨cs, hme, hce⟩ := atN_cells ha
  have hcl := hme.length
  have ME := Hid.mk hme
  have CE := Hid.mk hce
  have HR0 := Hid.mk ha'
  clear ha ha' hme hce
  go_enter Try.func40, Try.ntmps40
  go_wp2
  rw [← hW]
  clear hW
  go_loopw [5] (fun i wr => ∃ (k : Nat), k ≤ n ∧ i = .int .i64 k ∧ (∀ j, j < k → cmp (gat ts j).1 zs < 0) ∧ Below W.heap.size W wr) (fun i _ => n - (intOf i).toNat)
  case atStart => exact ⟨0, Nat.zero_le _, rfl, fun j hj => by omega, Below.refl _ _⟩
  case round =>
   obtain ⟨k, hk, rfl, hlow, hbw⟩ := hrel
   have B2 := B0.trans (hbw.mono B0.size)
   have q1 := (hbw.block w.heap.size (by omega)).trans q0
   have g0 : wr.cell? ⟨w.heap.size, 0, none⟩ = some (.slice a' m c') := by rw [cell_of_row wr _ 0 _ _ (0, 0) q1]; rfl
   have g1 : wr.cell? ⟨w.heap.size, 1, none⟩ = some (.int .i64 x) := by rw [cell_of_row wr _ 1 _ _ (0, 0) q1]; rfl
   have g2 : wr.cell? ⟨w.heap.size, 2, none⟩ = some (.int .i64 y) := by rw [cell_of_row wr _ 2 _ _ (0, 0) q1]; rfl
   by_cases hlt : k < n
   ·obtain ⟨q, d, k1, k2, k2', k3, k0, hat0⟩ := (ME.out.below B2).at k (by omega)
    have hcx : wr.cell? ⟨b, off + k * 3, none⟩ = some (.slice q (gat ts k).1.length d) := cell_later B2 (CE.out _ _ k1)
    have V1 := CE.out _ _ k2
    have V2 := CE.out _ _ k2'
    have hgk := hgr k hlt
    have hki : (k : Int) < (n : Int) := by omega
    have HP := Hid.mk (putV_at zs (x, y) ts k (by omega) hlow)
    have HRC := Hid.mk (restV_cons zs (x, y) ts k (by omega))
    have HL := Hid.mk hlow
    generalize hY : gat ts k = Y at *
    obtain ⟨ys, u, v⟩ := Y
    simp only at hcx V1 V2 hgk hat0 k1 k2 k2' k3 HP HRC
    have HYS : Hid ((gat ts k).1 = ys) := by show _ = _; rw [hY]
    obtain ⟨m2, hm2⟩ : ∃ m2, ys.length = m2 := ⟨_, rfl⟩
    rw [hm2] at hcx hgk
    have HM2 := Hid.mk hm2
    have hg6 := hgk.1
    have HUV := Hid.mk hgk.2
    have CX := Hid.mk (CE.out _ _ k1)
    rw [hm2] at CX
    have U1 : Hid (w.cell? ⟨b, off + k * 3 + 1, none⟩ = some (.int .i64 u)) := V1
    have U2 : Hid (w.cell? ⟨b, off + k * 3 + 2, none⟩ = some (.int .i64 v)) := V2
    have HAT : Hid (At w q ys) := by
     obtain ⟨q', d', e1, _, _, _, _, e2⟩ := ME.out.at k (by omega)
     rw [hY] at e1 e2
     have : q' = q := by
      have h1 : some (Value.slice q' ys.length d') = some (Value.slice q ys.length d) := e1.symm.trans k1
      simp at h1
      exact h1.1
     rw [← this]; exact e2
    clear hm2 hY k1 k2 k2' k3 k0 hlow hat0 hgk V1 V2
    go_wp2_with fail
    refine wp_region_held_drew (S := fun w' => w'.cell? ⟨b, off + k * 3, none⟩ = some (.slice q m2 d) ∧ w'.cell? ⟨w.heap.size, 0, none⟩ = some (.slice a' m c')) (by kernel_rfl) ?_ (fun hHeld => ?_)
    ·(try dsimp only)
     exact ⟨hcx, g0⟩
    refine wpAnyH_take (i := 0) (oi := ?_) (v := ?_) ?_ (by kernel_rfl) (by kernel_rfl) (by kernel_rfl) ?_ (Or.inl ⟨?_, ?_⟩) (by assumption) ?_
    rotate_left 2
    ·(simp only [List.getElem?_toArray, List.getElem?_cons_zero]; rfl)
    ·exact fun _ _ _ h => h
    ·rfl
    ·(intro wS hSw; (try dsimp only at hSw); go_simp; (try with_reducible rfl))
    (try simp only [Act.put, List.setIfInBounds_toArray, List.set_cons_zero, List.set_cons_succ])
    refine wpAnyH_take (i := 1) (oi := ?_) (v := ?_) ?_ (by kernel_rfl) (by kernel_rfl) (by kernel_rfl) ?_ (Or.inl ⟨?_, ?_⟩) (by assumption) ?_
    rotate_left 2
    ·(simp only [List.getElem?_toArray, List.getElem?_cons_zero, List.getElem?_cons_succ]; rfl)
    ·exact fun _ _ _ h => h
    ·rfl
    ·(intro wS hSw; (try dsimp only at hSw); go_simp; (try with_reducible rfl))
    (try simp only [Act.put, List.setIfInBounds_toArray, List.set_cons_zero, List.set_cons_succ])
    refine wpAnyH_take (i := 2) (oi := ?_) (v := ?_) ?_ (by kernel_rfl) (by kernel_rfl) (by kernel_rfl) ?_ (Or.inl ⟨?_, ?_⟩) (by assumption) ?_
    rotate_left 2
    ·(simp only [List.getElem?_toArray, List.getElem?_cons_zero, List.getElem?_cons_succ]; rfl)
    ·exact fun _ _ _ h => h
    ·rfl
    ·(intro wS hSw; (try dsimp only at hSw); go_simp; (try with_reducible rfl))
    (try simp only [Act.put, List.setIfInBounds_toArray, List.set_cons_zero, List.set_cons_succ])
    refine wpAnyH_take (i := 3) (oi := ?_) (v := ?_) ?_ (by kernel_rfl) (by kernel_rfl) (by kernel_rfl) ?_ (Or.inl ⟨?_, ?_⟩) (by assumption) ?_
    rotate_left 2
    ·(simp only [List.getElem?_toArray, List.getElem?_cons_zero, List.getElem?_cons_succ]; rfl)
    ·exact fun _ _ _ h => h
    ·rfl
    ·(intro wS hSw; (try dsimp only at hSw); go_simp; (try with_reducible rfl))
    (try simp only [Act.put, List.setIfInBounds_toArray, List.set_cons_zero, List.set_cons_succ])
    refine wpAnyH_take (i := 4) (oi := ?_) (v := ?_) ?_ (by kernel_rfl) (by kernel_rfl) (by kernel_rfl) ?_ (Or.inl ⟨?_, ?_⟩) (by assumption) ?_
    rotate_left 2
    ·(simp only [List.getElem?_toArray, List.getElem?_cons_zero, List.getElem?_cons_succ]; rfl)
    ·exact fun _ _ _ h => h
    ·rfl
    ·(intro wS hSw; (try dsimp only at hSw); go_simp; (try with_reducible rfl))
    (try simp only [Act.put, List.setIfInBounds_toArray, List.set_cons_zero, List.set_cons_succ])
    refine wpAnyH_take (i := 5) (oi := ?_) (v := ?_) ?_ (by kernel_rfl) (by kernel_rfl) (by kernel_rfl) ?_ (Or.inl ⟨?_, ?_⟩) (by assumption) ?_
    rotate_left 2
    ·(simp only [List.getElem?_toArray, List.getElem?_cons_zero, List.getElem?_cons_succ]; rfl)
    ·exact fun _ _ _ h => h
    ·rfl
    ·(intro wS hSw; (try dsimp only at hSw); go_simp; (try with_reducible rfl))
    (try simp only [Act.put, List.setIfInBounds_toArray, List.set_cons_zero, List.set_cons_succ])
    refine wpAnyH_take (i := 6) (oi := ?_) (v := ?_) ?_ (by kernel_rfl) (by kernel_rfl) (by kernel_rfl) ?_ (Or.inl ⟨?_, ?_⟩) (by assumption) ?_
    rotate_left 2
    ·(simp only [List.getElem?_toArray, List.getElem?_cons_zero, List.getElem?_cons_succ]; rfl)
    ·exact fun _ _ _ h => h
    ·rfl
    ·(intro wS hSw; (try dsimp only at hSw); go_simp; (try with_reducible rfl))
    (try simp only [Act.put, List.setIfInBounds_toArray, List.set_cons_zero, List.set_cons_succ])
    refine wpAnyH_take (i := 7) (oi := ?_) (v := ?_) ?_ (by kernel_rfl) (by kernel_rfl) (by kernel_rfl) ?_ (Or.inl ⟨?_, ?_⟩) (by assumption) ?_
    rotate_left 2
    ·(simp only [List.getElem?_toArray, List.getElem?_cons_zero, List.getElem?_cons_succ]; rfl)
    ·exact fun _ _ _ h => h
    ·rfl
    ·(intro wS hSw; (try dsimp only at hSw); go_simp; (try with_reducible rfl))
    (try simp only [Act.put, List.setIfInBounds_toArray, List.set_cons_zero, List.set_cons_succ])
    refine wpAnyH_take (i := 8) (oi := ?_) (v := ?_) ?_ (by kernel_rfl) (by kernel_rfl) (by kernel_rfl) ?_ (Or.inl ⟨?_, ?_⟩) (by assumption) ?_
    rotate_left 2
    ·(simp only [List.getElem?_toArray, List.getElem?_cons_zero, List.getElem?_cons_succ]; rfl)
    ·exact fun _ _ _ h => h
    ·rfl
    ·(intro wS hSw; (try dsimp only at hSw); go_simp; (try with_reducible rfl))
    (try simp only [Act.put, List.setIfInBounds_toArray, List.set_cons_zero, List.set_cons_succ])
    refine wpAnyH_take (i := 9) (oi := ?_) (v := ?_) ?_ (by kernel_rfl) (by kernel_rfl) (by kernel_rfl) ?_ (Or.inl ⟨?_, ?_⟩) (by assumption) ?_
    rotate_left 2
    ·(simp only [List.getElem?_toArray, List.getElem?_cons_zero, List.getElem?_cons_succ]; rfl)
    ·exact fun _ _ _ h => h
    ·rfl
    ·(intro wS hSw; (try dsimp only at hSw); go_simp; (try with_reducible rfl))
    (try simp only [Act.put, List.setIfInBounds_toArray, List.set_cons_zero, List.set_cons_succ])
    refine wpAnyH_take (i := 10) (oi := ?_) (v := ?_) ?_ (by kernel_rfl) (by kernel_rfl) (by kernel_rfl) ?_ (Or.inl ⟨?_, ?_⟩) (by assumption) ?_
    rotate_left 2
    ·(simp only [List.getElem?_toArray, List.getElem?_cons_zero, List.getElem?_cons_succ]; rfl)
    ·exact fun _ _ _ h => h
    ·rfl
    ·(intro wS hSw; (try dsimp only at hSw); go_simp; (try with_reducible rfl))
    (try simp only [Act.put, List.setIfInBounds_toArray, List.set_cons_zero, List.set_cons_succ])
    refine wpAnyH_take (i := 11) (oi := ?_) (v := ?_) ?_ (by kernel_rfl) (by kernel_rfl) (by kernel_rfl) ?_ (Or.inl ⟨?_, ?_⟩) (by assumption) ?_
    rotate_left 2
    ·(simp only [List.getElem?_toArray, List.getElem?_cons_zero, List.getElem?_cons_succ]; rfl)
    ·exact fun _ _ _ h => h
    ·rfl
    ·(intro wS hSw; (try dsimp only at hSw); go_simp; (try with_reducible rfl))
    (try simp only [Act.put, List.setIfInBounds_toArray, List.set_cons_zero, List.set_cons_succ])
    refine wpAnyH_ready (rs := [12]) (by kernel_rfl) (by simp) ?_
    refine AllReadyH.cons (o := ?_) ?_ (fun K hK => ?_) AllReadyH.nil
    rotate_left
    ·(simp only [List.getElem?_toArray, List.getElem?_cons_zero, List.getElem?_cons_succ]; rfl)
    go_simp
    go_at_call 90; refine (l1Compare_any _ _ _ _ _ _ ys zs _ HM2.out hz' hg6 l6 (HAT.out.below B2).drew (HR0.out.below B2).drew).mono ?_; rintro e w2 ⟨rfl, hb2⟩; have e1 := cell_later hb2 hcx; have e2 := cell_later hb2 g0
    (try go_wp2_with fail)
    refine hK.out _ _ ?_ (fun hHeld' => ?_)
    ·(try dsimp only)
     (refine ⟨?_, ?_⟩ <;> assumption)
    clear hK K hHeld
    have hHeld := hHeld'
    clear hHeld'
    (try simp only [Act.put, List.setIfInBounds_toArray, List.set_cons_zero, List.set_cons_succ])
    refine wpAnyH_take (i := 13) (oi := ?_) (v := ?_) ?_ (by kernel_rfl) (by kernel_rfl) (by kernel_rfl) ?_ (Or.inl ⟨?_, ?_⟩) (by assumption) ?_
    rotate_left 2
    ·(simp only [List.getElem?_toArray, List.getElem?_cons_zero, List.getElem?_cons_succ]; rfl)
    ·exact fun _ _ _ h => h
    ·rfl
    ·(intro wS hSw; (try dsimp only at hSw); go_simp; (try with_reducible rfl))
    (try simp only [Act.put, List.setIfInBounds_toArray, List.set_cons_zero, List.set_cons_succ])
    refine wpAnyH_take (i := 14) (oi := ?_) (v := ?_) ?_ (by kernel_rfl) (by kernel_rfl) (by kernel_rfl) ?_ (Or.inl ⟨?_, ?_⟩) (by assumption) ?_
    rotate_left 2
    ·(simp only [List.getElem?_toArray, List.getElem?_cons_zero, List.getElem?_cons_succ]; rfl)
    ·exact fun _ _ _ h => h
    ·rfl
    ·(intro wS hSw; (try dsimp only at hSw); go_simp; (try with_reducible rfl))
    (try simp only [Act.put, List.setIfInBounds_toArray, List.set_cons_zero, List.set_cons_succ])
    refine wpAnyH_done (by kernel_rfl) ?_ _
    have V3 : Below W.heap.size W w2 := hbw.drew.trans (hb2.mono hbw.size)
    by_cases hlss : cmp ys zs < 0
    ·have HLS := Hid.mk hlss
     go_wp2
     go_roundw
     case rel => exact ⟨k + 1, by omega, by go_num, fun j hj => by
      by_cases e : j = k
      ·subst e; rw [HYS.out]; exact HLS.out
      ·exact HL.out j (by omega), V3⟩
     case measure => simp [intOf]; omega

    ·have HNL := Hid.mk hlss
     clear hlss e1 e2 hHeld hcx g0 g1 g2 hbw B2 q1
     have B3 : Below w.heap.size w w2 := B0.trans (V3.mono B0.size)
     have z2 := V3.size
     have q2 := (V3.block w.heap.size (by omega)).trans q0
     have hce2 : ∀ j u, cs[j]? = some u → w2.cell? ⟨b, off + j, none⟩ = some u := fun j u hj => cell_later B3 (CE.out j u hj)
     have hme2 := ME.out.below B3
     have htl : (cs.take (k * 3)).length = k * 3 := by rw [List.length_take, hcl]; omega
     have h0 : w2.cell? ⟨w.heap.size, 0, none⟩ = some (.slice a' m c') := by rw [cell_of_row w2 _ 0 _ _ (0, 0) q2]; rfl
     have h1 : w2.cell? ⟨w.heap.size, 1, none⟩ = some (.int .i64 x) := by rw [cell_of_row w2 _ 1 _ _ (0, 0) q2]; rfl
     have h2 : w2.cell? ⟨w.heap.size, 2, none⟩ = some (.int .i64 y) := by rw [cell_of_row w2 _ 2 _ _ (0, 0) q2]; rfl
     go_wp2_with (at_builtin; refine wpList_append_any rfl (.tmp 24) (.tmp 27) 27 rfl w2.heap.size 73 i0 (.agg #[.slice none 0 0, .int .i64 0, .int .i64 0]) 3 40 Try.underlying27 hi hz0 hz1 hz2 rfl (by decide) (.slice none 0 0) 0 [] rfl (World.ownsRow_nil _ _ _ _) ⟨b, off, none⟩ k c (cs.take (k * 3)) rfl htl (take_cells hce2 _) (fun u hu => hme2.oneCell u (List.mem_of_mem_take hu)) (by unfold maxLen; omega) (by omega) (by first | exact Nat.le_refl _ | omega | (simp; omega)) ?_; intro r5 cap5 w5 hown5 hgrow5; have hb5 : Below w2.heap.size w2 w5 := (Below.refl _ _).grown hgrow5 (Nat.le_refl _) (by simp [Value.ownBlock]); have p0 := cell_later hb5 h0; rw [Nat.zero_add] at hown5; rw [Nat.zero_add])
     rw [List.nil_append] at hown5
     have B5 : Below w.heap.size w w5 := B3.trans (hb5.mono B3.size)
     refine (l2OwnRow_any _ _ _ zs _ hz' (by omega) hnil (HR0.out.below B5)).mono ?_
     rintro e w6 ⟨r6, d6, rfl, ho6, hb6⟩
     have z5 := hb5.size
     have z6 := hb6.size
     have B6 : Below w.heap.size w w6 := B5.trans (hb6.mono B5.size)
     have q6 := (hb6.block w.heap.size (by omega)).trans ((hb5.block w.heap.size (by omega)).trans q2)
     have f6 := frozen_of_row w6 _ 0 _ _ q6
     have t0 : w6.cell? ⟨w.heap.size, 0, none⟩ = some (.slice a' m c') := by rw [cell_of_row w6 _ 0 _ _ (0, 0) q6]; rfl
     have t1 : w6.cell? ⟨w.heap.size, 1, none⟩ = some (.int .i64 x) := by rw [cell_of_row w6 _ 1 _ _ (0, 0) q6]; rfl
     have t2 : w6.cell? ⟨w.heap.size, 2, none⟩ = some (.int .i64 y) := by rw [cell_of_row w6 _ 2 _ _ (0, 0) q6]; rfl
     obtain ⟨V, hV⟩ : ∃ V, V = w6.setCell ⟨w.heap.size, 0, none⟩ (.slice r6 m d6) := ⟨_, rfl⟩
     have zV : w6.heap.size ≤ V.heap.size := by rw [hV]; simp [World.setCell]
     have BV : Below w.heap.size w V := by rw [hV]; exact B6.setCell (Nat.le_refl _) _
     have qV : V.heap[w.heap.size]? = some (.cells #[.slice r6 m d6, .int .i64 x, .int .i64 y] 73 (0, 0)) := by rw [hV, heap_setCell_same w6 _ 0 _ _ _ q6]; rfl
     have o9 : V.ownsRow w2.heap.size 73 3 (.slice r5 k cap5) k (cs.take (k * 3)) := by rw [hV]; exact ownsRow_setCell_below (owns_below hown5 hb6) (by show w.heap.size < w2.heap.size; omega) _
     have ho9 : V.ownsRow w5.heap.size 3 1 (.slice r6 m d6) m (zs.map (.int .i64)) := by rw [hV]; exact ownsRow_setCell_below ho6 (by show w.heap.size < w5.heap.size; omega) _
     have lt5 : ∀ j, (Value.slice r5 k cap5).ownBlock = some j → w2.heap.size ≤ j ∧ j < w5.heap.size := fun j hj => hown5.lt j hj
     have lt6 : ∀ j, (Value.slice r6 m d6).ownBlock = some j → w5.heap.size ≤ j ∧ j < w6.heap.size := fun j hj => ho6.lt j hj
     have hap9 : (Value.slice r6 m d6).ownBlock = none ∨ (Value.slice r6 m d6).ownBlock ≠ (Value.slice r5 k cap5).ownBlock := by
      cases hv : (Value.slice r6 m d6).ownBlock with
      | none => exact .inl rfl
      | some j => exact .inr (fun e' => by have := (lt5 j e'.symm).2; have := (lt6 j hv).1; omega)
     have c0 : V.cell? ⟨w.heap.size, 0, none⟩ = some (.slice r6 m d6) := by rw [cell_of_row V _ 0 _ _ (0, 0) qV]; rfl
     have c1 : V.cell? ⟨w.heap.size, 1, none⟩ = some (.int .i64 x) := by rw [cell_of_row V _ 1 _ _ (0, 0) qV]; rfl
     have c2 : V.cell? ⟨w.heap.size, 2, none⟩ = some (.int .i64 y) := by rw [cell_of_row V _ 2 _ _ (0, 0) qV]; rfl
     have cx9 : V.cell? ⟨b, off + k * 3, none⟩ = some (.slice q m2 d) := cell_later BV CX.out
     go_wp2_with fail
     rw [← hV]
     clear hV
     refine wp_region_held_drew (S := fun w' => w'.cell? ⟨b, off + k * 3, none⟩ = some (.slice q m2 d) ∧ w'.cell? ⟨w.heap.size, 0, none⟩ = some (.slice r6 m d6)) (by kernel_rfl) ?_ (fun hHeld => ?_)
     ·(try dsimp only)
      exact ⟨cx9, c0⟩
     refine wpAnyH_take (i := 0) (oi := ?_) (v := ?_) ?_ (by kernel_rfl) (by kernel_rfl) (by kernel_rfl) ?_ (Or.inl ⟨?_, ?_⟩) (by assumption) ?_
     rotate_left 2
     ·(simp only [List.getElem?_toArray, List.getElem?_cons_zero]; rfl)
     ·exact fun _ _ _ h => h
     ·rfl
     ·(intro wS hSw; (try dsimp only at hSw); go_simp; (try with_reducible rfl))
     (try simp only [Act.put, List.setIfInBounds_toArray, List.set_cons_zero, List.set_cons_succ])
     refine wpAnyH_take (i := 1) (oi := ?_) (v := ?_) ?_ (by kernel_rfl) (by kernel_rfl) (by kernel_rfl) ?_ (Or.inl ⟨?_, ?_⟩) (by assumption) ?_
     rotate_left 2
     ·(simp only [List.getElem?_toArray, List.getElem?_cons_zero, List.getElem?_cons_succ]; rfl)
     ·exact fun _ _ _ h => h
     ·rfl
     ·(intro wS hSw; (try dsimp only at hSw); go_simp; (try with_reducible rfl))
     (try simp only [Act.put, List.setIfInBounds_toArray, List.set_cons_zero, List.set_cons_succ])
     refine wpAnyH_take (i := 2) (oi := ?_) (v := ?_) ?_ (by kernel_rfl) (by kernel_rfl) (by kernel_rfl) ?_ (Or.inl ⟨?_, ?_⟩) (by assumption) ?_
     rotate_left 2
     ·(simp only [List.getElem?_toArray, List.getElem?_cons_zero, List.getElem?_cons_succ]; rfl)
     ·exact fun _ _ _ h => h
     ·rfl
     ·(intro wS hSw; (try dsimp only at hSw); go_simp; (try with_reducible rfl))
     (try simp only [Act.put, List.setIfInBounds_toArray, List.set_cons_zero, List.set_cons_succ])
     refine wpAnyH_take (i := 3) (oi := ?_) (v := ?_) ?_ (by kernel_rfl) (by kernel_rfl) (by kernel_rfl) ?_ (Or.inl ⟨?_, ?_⟩) (by assumption) ?_
     rotate_left 2
     ·(simp only [List.getElem?_toArray, List.getElem?_cons_zero, List.getElem?_cons_succ]; rfl)
     ·exact fun _ _ _ h => h
     ·rfl
     ·(intro wS hSw; (try dsimp only at hSw); go_simp; (try with_reducible rfl))
     (try simp only [Act.put, List.setIfInBounds_toArray, List.set_cons_zero, List.set_cons_succ])
     refine wpAnyH_take (i := 4) (oi := ?_) (v := ?_) ?_ (by kernel_rfl) (by kernel_rfl) (by kernel_rfl) ?_ (Or.inl ⟨?_, ?_⟩) (by assumption) ?_
     rotate_left 2
     ·(simp only [List.getElem?_toArray, List.getElem?_cons_zero, List.getElem?_cons_succ]; rfl)
     ·exact fun _ _ _ h => h
     ·rfl
     ·(intro wS hSw; (try dsimp only at hSw); go_simp; (try with_reducible rfl))
     (try simp only [Act.put, List.setIfInBounds_toArray, List.set_cons_zero, List.set_cons_succ])
     refine wpAnyH_take (i := 5) (oi := ?_) (v := ?_) ?_ (by kernel_rfl) (by kernel_rfl) (by kernel_rfl) ?_ (Or.inl ⟨?_, ?_⟩) (by assumption) ?_
     rotate_left 2
     ·(simp only [List.getElem?_toArray, List.getElem?_cons_zero, List.getElem?_cons_succ]; rfl)
     ·exact fun _ _ _ h => h
     ·rfl
     ·(intro wS hSw; (try dsimp only at hSw); go_simp; (try with_reducible rfl))
     (try simp only [Act.put, List.setIfInBounds_toArray, List.set_cons_zero, List.set_cons_succ])
     refine wpAnyH_take (i := 6) (oi := ?_) (v := ?_) ?_ (by kernel_rfl) (by kernel_rfl) (by kernel_rfl) ?_ (Or.inl ⟨?_, ?_⟩) (by assumption) ?_
     rotate_left 2
     ·(simp only [List.getElem?_toArray, List.getElem?_cons_zero, List.getElem?_cons_succ]; rfl)
     ·exact fun _ _ _ h => h
     ·rfl
     ·(intro wS hSw; (try dsimp only at hSw); go_simp; (try with_reducible rfl))
     (try simp only [Act.put, List.setIfInBounds_toArray, List.set_cons_zero, List.set_cons_succ])
     refine wpAnyH_take (i := 7) (oi := ?_) (v := ?_) ?_ (by kernel_rfl) (by kernel_rfl) (by kernel_rfl) ?_ (Or.inl ⟨?_, ?_⟩) (by assumption) ?_
     rotate_left 2
     ·(simp only [List.getElem?_toArray, List.getElem?_cons_zero, List.getElem?_cons_succ]; rfl)
     ·exact fun _ _ _ h => h
     ·rfl
     ·(intro wS hSw; (try dsimp only at hSw); go_simp; (try with_reducible rfl))
     (try simp only [Act.put, List.setIfInBounds_toArray, List.set_cons_zero, List.set_cons_succ])
     refine wpAnyH_take (i := 8) (oi := ?_) (v := ?_) ?_ (by kernel_rfl) (by kernel_rfl) (by kernel_rfl) ?_ (Or.inl ⟨?_, ?_⟩) (by assumption) ?_
     rotate_left 2
     ·(simp only [List.getElem?_toArray, List.getElem?_cons_zero, List.getElem?_cons_succ]; rfl)
     ·exact fun _ _ _ h => h
     ·rfl
     ·(intro wS hSw; (try dsimp only at hSw); go_simp; (try with_reducible rfl))
     (try simp only [Act.put, List.setIfInBounds_toArray, List.set_cons_zero, List.set_cons_succ])
     refine wpAnyH_take (i := 9) (oi := ?_) (v := ?_) ?_ (by kernel_rfl) (by kernel_rfl) (by kernel_rfl) ?_ (Or.inl ⟨?_, ?_⟩) (by assumption) ?_
     rotate_left 2
     ·(simp only [List.getElem?_toArray, List.getElem?_cons_zero, List.getElem?_cons_succ]; rfl)
     ·exact fun _ _ _ h => h
     ·rfl
     ·(intro wS hSw; (try dsimp only at hSw); go_simp; (try with_reducible rfl))
     (try simp only [Act.put, List.setIfInBounds_toArray, List.set_cons_zero, List.set_cons_succ])
     refine wpAnyH_take (i := 10) (oi := ?_) (v := ?_) ?_ (by kernel_rfl) (by kernel_rfl) (by kernel_rfl) ?_ (Or.inl ⟨?_, ?_⟩) (by assumption) ?_
     rotate_left 2
     ·(simp only [List.getElem?_toArray, List.getElem?_cons_zero, List.getElem?_cons_succ]; rfl)
     ·exact fun _ _ _ h => h
     ·rfl
     ·(intro wS hSw; (try dsimp only at hSw); go_simp; (try with_reducible rfl))
     (try simp only [Act.put, List.setIfInBounds_toArray, List.set_cons_zero, List.set_cons_succ])
     refine wpAnyH_take (i := 11) (oi := ?_) (v := ?_) ?_ (by kernel_rfl) (by kernel_rfl) (by kernel_rfl) ?_ (Or.inl ⟨?_, ?_⟩) (by assumption) ?_
     rotate_left 2
     ·(simp only [List.getElem?_toArray, List.getElem?_cons_zero, List.getElem?_cons_succ]; rfl)
     ·exact fun _ _ _ h => h
     ·rfl
     ·(intro wS hSw; (try dsimp only at hSw); go_simp; (try with_reducible rfl))
     (try simp only [Act.put, List.setIfInBounds_toArray, List.set_cons_zero, List.set_cons_succ])
     refine wpAnyH_ready (rs := [12]) (by kernel_rfl) (by simp) ?_
     refine AllReadyH.cons (o := ?_) ?_ (fun K hK => ?_) AllReadyH.nil
     rotate_left
     ·(simp only [List.getElem?_toArray, List.getElem?_cons_zero, List.getElem?_cons_succ]; rfl)
     go_simp
     go_at_call 90; refine (l1Compare_any _ _ _ _ _ _ ys zs _ HM2.out hz' hg6 l6 (HAT.out.below BV).drew (At.owned ho9).drew).mono ?_; rintro e w10 ⟨rfl, hb10⟩; have e1 := cell_later hb10 cx9; have e2 := cell_later hb10 c0
     (try go_wp2_with fail)
     refine hK.out _ _ ?_ (fun hHeld' => ?_)
     ·(try dsimp only)
      (refine ⟨?_, ?_⟩ <;> assumption)
     clear hK K hHeld
     have hHeld := hHeld'
     clear hHeld'
     (try simp only [Act.put, List.setIfInBounds_toArray, List.set_cons_zero, List.set_cons_succ])
     refine wpAnyH_take (i := 13) (oi := ?_) (v := ?_) ?_ (by kernel_rfl) (by kernel_rfl) (by kernel_rfl) ?_ (Or.inl ⟨?_, ?_⟩) (by assumption) ?_
     rotate_left 2
     ·(simp only [List.getElem?_toArray, List.getElem?_cons_zero, List.getElem?_cons_succ]; rfl)
     ·exact fun _ _ _ h => h
     ·rfl
     ·(intro wS hSw; (try dsimp only at hSw); go_simp; (try with_reducible rfl))
     (try simp only [Act.put, List.setIfInBounds_toArray, List.set_cons_zero, List.set_cons_succ])
     refine wpAnyH_take (i := 14) (oi := ?_) (v := ?_) ?_ (by kernel_rfl) (by kernel_rfl) (by kernel_rfl) ?_ (Or.inl ⟨?_, ?_⟩) (by assumption) ?_
     rotate_left 2
     ·(simp only [List.getElem?_toArray, List.getElem?_cons_zero, List.getElem?_cons_succ]; rfl)
     ·exact fun _ _ _ h => h
     ·rfl
     ·(intro wS hSw; (try dsimp only at hSw); go_simp; (try with_reducible rfl))
     (try simp only [Act.put, List.setIfInBounds_toArray, List.set_cons_zero, List.set_cons_succ])
     refine wpAnyH_done (by kernel_rfl) ?_ _
     have V10 : Below V.heap.size V w10 := (Below.refl _ _).drew.trans hb10
     have BX : Below w.heap.size w w10 := BV.trans (V10.mono BV.size)
     have o9 := owns_below o9 V10
     have ho9 := owns_below ho9 V10
     have qX := (V10.block w.heap.size (by omega)).trans qV
     have z10 := V10.size
     have HPW := HP.out (fun _ => HNL.out)
     rw [HRC.out] at HPW
     clear e1 e2 hHeld hb10 V10 cx9 c0 c1 c2 t0 t1 t2 h0 h1 h2 p0
     have s0 : w10.cell? ⟨w.heap.size, 0, none⟩ = some (.slice r6 m d6) := by rw [cell_of_row w10 _ 0 _ _ (0, 0) qX]; rfl
     have s1 : w10.cell? ⟨w.heap.size, 1, none⟩ = some (.int .i64 x) := by rw [cell_of_row w10 _ 1 _ _ (0, 0) qX]; rfl
     have s2 : w10.cell? ⟨w.heap.size, 2, none⟩ = some (.int .i64 y) := by rw [cell_of_row w10 _ 2 _ _ (0, 0) qX]; rfl
     by_cases hc0 : cmp ys zs = 0
     ·have hcb : (cmp ys zs == 0) = true := by simp [hc0]
      rw [if_pos hc0] at HPW
      obtain ⟨k', hk'⟩ : ∃ k', k' = k + 1 := ⟨_, rfl⟩
      rw [← hk'] at HPW
      have hk1 : (k : Int) + 1 = (k' : Int) := by omega
      have hk2 : k' ≤ n := by omega
      have HK := Hid.mk hk'
      clear hk'
      obtain ⟨hw1, hw2⟩ := InA.wrap1 hx HUV.out
      simp only at hw1 hw2
      obtain ⟨P, hP⟩ : ∃ P, P = x + u := ⟨_, rfl⟩
      obtain ⟨Q, hQ⟩ : ∃ Q, Q = y + v := ⟨_, rfl⟩
      rw [← hP] at hw1
      rw [← hQ] at hw2
      have hw1' : IntKind.i64.wrap (x + u) = P := by rw [← hP]; exact hw1
      have hw2' : IntKind.i64.wrap (y + v) = Q := by rw [← hQ]; exact hw2
      have hPQ : addA (x, y) (u, v) = (P, Q) := by rw [hP, hQ]; rfl
      rw [hPQ] at HPW
      have HPUT := Hid.mk HPW
      have wu : w10.cell? ⟨b, off + k * 3 + 1, none⟩ = some (.int .i64 u) := cell_later BX U1.out
      have zb0 : b < w.heap.size := World.block_lt_of_cell? _ _ U1.out
      have zb : b ≠ w.heap.size := by omega
      have fX := frozen_of_row w10 _ 1 _ _ qX
      clear HPW hc0 hw1 hw2 hP hQ hPQ
      go_wp2_with fail
      refine wp_region_held_drew (S := fun w' => w'.cell? ⟨b, off + k * 3 + 1, none⟩ = some (.int .i64 u)) (by kernel_rfl) ?_ (fun hHeld => ?_)
      ·(try dsimp only)
       exact wu
      refine wpAnyH_take (i := 0) (oi := ?_) (v := ?_) ?_ (by kernel_rfl) (by kernel_rfl) (by kernel_rfl) ?_ (Or.inl ⟨?_, ?_⟩) (by assumption) ?_
      rotate_left 2
      ·(simp only [List.getElem?_toArray, List.getElem?_cons_zero]; rfl)
      ·exact fun _ _ _ h => h
      ·rfl
      ·(intro wS hSw; (try dsimp only at hSw); go_simp; (try with_reducible rfl))
      (try simp only [Act.put, List.setIfInBounds_toArray, List.set_cons_zero, List.set_cons_succ])
      refine wpAnyH_take (i := 2) (oi := ?_) (v := ?_) ?_ (by kernel_rfl) (by kernel_rfl) (by kernel_rfl) ?_ (Or.inl ⟨?_, ?_⟩) (by assumption) ?_
      rotate_left 2
      ·(simp only [List.getElem?_toArray, List.getElem?_cons_zero, List.getElem?_cons_succ]; rfl)
      ·exact fun _ _ _ h => h
      ·rfl
      ·(intro wS hSw; (try dsimp only at hSw); go_simp; (try with_reducible rfl))
      (try simp only [Act.put, List.setIfInBounds_toArray, List.set_cons_zero, List.set_cons_succ])
      refine wpAnyH_take (i := 3) (oi := ?_) (v := ?_) ?_ (by kernel_rfl) (by kernel_rfl) (by kernel_rfl) ?_ (Or.inl ⟨?_, ?_⟩) (by assumption) ?_
      rotate_left 2
      ·(simp only [List.getElem?_toArray, List.getElem?_cons_zero, List.getElem?_cons_succ]; rfl)
      ·exact fun _ _ _ h => h
      ·rfl
      ·(intro wS hSw; (try dsimp only at hSw); go_simp; (try with_reducible rfl))
      (try simp only [Act.put, List.setIfInBounds_toArray, List.set_cons_zero, List.set_cons_succ])
      refine wpAnyH_take (i := 4) (oi := ?_) (v := ?_) ?_ (by kernel_rfl) (by kernel_rfl) (by kernel_rfl) ?_ (Or.inl ⟨?_, ?_⟩) (by assumption) ?_
      rotate_left 2
      ·(simp only [List.getElem?_toArray, List.getElem?_cons_zero, List.getElem?_cons_succ]; rfl)
      ·exact fun _ _ _ h => h
      ·rfl
      ·(intro wS hSw; (try dsimp only at hSw); go_simp; (try with_reducible rfl))
      (try simp only [Act.put, List.setIfInBounds_toArray, List.set_cons_zero, List.set_cons_succ])
      refine wpAnyH_take (i := 5) (oi := ?_) (v := ?_) ?_ (by kernel_rfl) (by kernel_rfl) (by kernel_rfl) ?_ (Or.inl ⟨?_, ?_⟩) (by assumption) ?_
      rotate_left 2
      ·(simp only [List.getElem?_toArray, List.getElem?_cons_zero, List.getElem?_cons_succ]; rfl)
      ·exact fun _ _ _ h => h
      ·rfl
      ·(intro wS hSw; (try dsimp only at hSw); go_simp; (try with_reducible rfl))
      (try simp only [Act.put, List.setIfInBounds_toArray, List.set_cons_zero, List.set_cons_succ])
      refine wpAnyH_take (i := 6) (oi := ?_) (v := ?_) ?_ (by kernel_rfl) (by kernel_rfl) (by kernel_rfl) ?_ (Or.inl ⟨?_, ?_⟩) (by assumption) ?_
      rotate_left 2
      ·(simp only [List.getElem?_toArray, List.getElem?_cons_zero, List.getElem?_cons_succ]; rfl)
      ·exact fun _ _ _ h => h
      ·rfl
      ·(intro wS hSw; (try dsimp only at hSw); go_simp; (try with_reducible rfl))
      (try simp only [Act.put, List.setIfInBounds_toArray, List.set_cons_zero, List.set_cons_succ])
      refine wpAnyH_ready (rs := [1]) (by kernel_rfl) (by simp) ?_
      refine AllReadyH.cons (o := ?_) ?_ (fun K hK => ?_) AllReadyH.nil
      rotate_left
      ·(simp only [List.getElem?_toArray, List.getElem?_cons_zero, List.getElem?_cons_succ]; rfl)
      go_simp
      skip
      (try go_wp2_with fail)
      refine hK.out _ _ ?_ (fun hHeld' => ?_)
      ·(try dsimp only)
       assumption
      clear hK K hHeld
      have hHeld := hHeld'
      clear hHeld'
      (try simp only [Act.put, List.setIfInBounds_toArray, List.set_cons_zero, List.set_cons_succ])
      refine wpAnyH_take (i := 7) (oi := ?_) (v := ?_) ?_ (by kernel_rfl) (by kernel_rfl) (by kernel_rfl) ?_ (Or.inl ⟨?_, ?_⟩) (by assumption) ?_
      rotate_left 2
      ·(simp only [List.getElem?_toArray, List.getElem?_cons_zero, List.getElem?_cons_succ]; rfl)
      ·exact fun _ _ _ h => h
      ·rfl
      ·(intro wS hSw; (try dsimp only at hSw); go_simp; (try with_reducible rfl))
      (try simp only [Act.put, List.setIfInBounds_toArray, List.set_cons_zero, List.set_cons_succ])
      refine wpAnyH_take (i := 8) (oi := ?_) (v := ?_) ?_ (by kernel_rfl) (by kernel_rfl) (by kernel_rfl) ?_ (Or.inl ⟨?_, ?_⟩) (by assumption) ?_
      rotate_left 2
      ·(simp only [List.getElem?_toArray, List.getElem?_cons_zero, List.getElem?_cons_succ]; rfl)
      ·exact fun _ _ _ h => h
      ·rfl
      ·(intro wS hSw; (try dsimp only at hSw); go_simp; (try with_reducible rfl))
      (try simp only [Act.put, List.setIfInBounds_toArray, List.set_cons_zero, List.set_cons_succ])
      refine wpAnyH_ready (rs := [9]) (by kernel_rfl) (by simp) ?_
      refine AllReadyH.cons (o := ?_) ?_ (fun K hK => ?_) AllReadyH.nil
      rotate_left
      ·(simp only [List.getElem?_toArray, List.getElem?_cons_zero, List.getElem?_cons_succ]; rfl)
      go_simp
      skip
      (try go_wp2_with fail)
      refine hK.out _ _ ?_ (fun hHeld' => ?_)
      ·(try dsimp only)
       exact keep_far wu zb
      clear hK K hHeld
      have hHeld := hHeld'
      clear hHeld'
      (try simp only [Act.put, List.setIfInBounds_toArray, List.set_cons_zero, List.set_cons_succ])
      refine wpAnyH_done (by kernel_rfl) ?_ _
      obtain ⟨U, hU⟩ : ∃ U, U = (w10.setCell ⟨w.heap.size, 1, none⟩ (.int .i64 P)).drew := ⟨_, rfl⟩
      have BU : Below w.heap.size w U := by rw [hU]; exact (BX.setCell (Nat.le_refl _) _).drew
      have qU : U.heap[w.heap.size]? = some (.cells #[.slice r6 m d6, .int .i64 P, .int .i64 y] 73 (0, 0)) := by rw [hU]; show (w10.setCell _ _).heap[_]? = _; rw [heap_setCell_same w10 _ 1 _ _ _ qX]; rfl
      have zU : w10.heap.size ≤ U.heap.size := by rw [hU, drew_size]; simp [World.setCell]
      have o9 : U.ownsRow w2.heap.size 73 3 (.slice r5 k cap5) k (cs.take (k * 3)) := by rw [hU]; exact World.ownsRow.drew (ownsRow_setCell_below o9 (by show w.heap.size < w2.heap.size; omega) _)
      have ho9 : U.ownsRow w5.heap.size 3 1 (.slice r6 m d6) m (zs.map (.int .i64)) := by rw [hU]; exact World.ownsRow.drew (ownsRow_setCell_below ho9 (by show w.heap.size < w5.heap.size; omega) _)
      have wv : U.cell? ⟨b, off + k * 3 + 2, none⟩ = some (.int .i64 v) := cell_later BU U2.out
      have fU := frozen_of_row U _ 2 _ _ qU
      rw [← hU]
      clear hU hHeld s0 s1 s2 fX qX BX wu
      have s0 : U.cell? ⟨w.heap.size, 0, none⟩ = some (.slice r6 m d6) := by rw [cell_of_row U _ 0 _ _ (0, 0) qU]; rfl
      have s1 : U.cell? ⟨w.heap.size, 1, none⟩ = some (.int .i64 P) := by rw [cell_of_row U _ 1 _ _ (0, 0) qU]; rfl
      have s2 : U.cell? ⟨w.heap.size, 2, none⟩ = some (.int .i64 y) := by rw [cell_of_row U _ 2 _ _ (0, 0) qU]; rfl
      go_wp2_with fail
      refine wp_region_held_drew (S := fun w' => w'.cell? ⟨b, off + k * 3 + 2, none⟩ = some (.int .i64 v)) (by kernel_rfl) ?_ (fun hHeld => ?_)
      ·(try dsimp only)
       exact wv
      refine wpAnyH_take (i := 0) (oi := ?_) (v := ?_) ?_ (by kernel_rfl) (by kernel_rfl) (by kernel_rfl) ?_ (Or.inl ⟨?_, ?_⟩) (by assumption) ?_
      rotate_left 2
      ·(simp only [List.getElem?_toArray, List.getElem?_cons_zero]; rfl)
      ·exact fun _ _ _ h => h
      ·rfl
      ·(intro wS hSw; (try dsimp only at hSw); go_simp; (try with_reducible rfl))
      (try simp only [Act.put, List.setIfInBounds_toArray, List.set_cons_zero, List.set_cons_succ])
      refine wpAnyH_take (i := 2) (oi := ?_) (v := ?_) ?_ (by kernel_rfl) (by kernel_rfl) (by kernel_rfl) ?_ (Or.inl ⟨?_, ?_⟩) (by assumption) ?_
      rotate_left 2
      ·(simp only [List.getElem?_toArray, List.getElem?_cons_zero, List.getElem?_cons_succ]; rfl)
      ·exact fun _ _ _ h => h
      ·rfl
      ·(intro wS hSw; (try dsimp only at hSw); go_simp; (try with_reducible rfl))
      (try simp only [Act.put, List.setIfInBounds_toArray, List.set_cons_zero, List.set_cons_succ])
      refine wpAnyH_take (i := 3) (oi := ?_) (v := ?_) ?_ (by kernel_rfl) (by kernel_rfl) (by kernel_rfl) ?_ (Or.inl ⟨?_, ?_⟩) (by assumption) ?_
      rotate_left 2
      ·(simp only [List.getElem?_toArray, List.getElem?_cons_zero, List.getElem?_cons_succ]; rfl)
      ·exact fun _ _ _ h => h
      ·rfl
      ·(intro wS hSw; (try dsimp only at hSw); go_simp; (try with_reducible rfl))
      (try simp only [Act.put, List.setIfInBounds_toArray, List.set_cons_zero, List.set_cons_succ])
      refine wpAnyH_take (i := 4) (oi := ?_) (v := ?_) ?_ (by kernel_rfl) (by kernel_rfl) (by kernel_rfl) ?_ (Or.inl ⟨?_, ?_⟩) (by assumption) ?_
      rotate_left 2
      ·(simp only [List.getElem?_toArray, List.getElem?_cons_zero, List.getElem?_cons_succ]; rfl)
      ·exact fun _ _ _ h => h
      ·rfl
      ·(intro wS hSw; (try dsimp only at hSw); go_simp; (try with_reducible rfl))
      (try simp only [Act.put, List.setIfInBounds_toArray, List.set_cons_zero, List.set_cons_succ])
      refine wpAnyH_take (i := 5) (oi := ?_) (v := ?_) ?_ (by kernel_rfl) (by kernel_rfl) (by kernel_rfl) ?_ (Or.inl ⟨?_, ?_⟩) (by assumption) ?_
      rotate_left 2
      ·(simp only [List.getElem?_toArray, List.getElem?_cons_zero, List.getElem?_cons_succ]; rfl)
      ·exact fun _ _ _ h => h
      ·rfl
      ·(intro wS hSw; (try dsimp only at hSw); go_simp; (try with_reducible rfl))
      (try simp only [Act.put, List.setIfInBounds_toArray, List.set_cons_zero, List.set_cons_succ])
      refine wpAnyH_take (i := 6) (oi := ?_) (v := ?_) ?_ (by kernel_rfl) (by kernel_rfl) (by kernel_rfl) ?_ (Or.inl ⟨?_, ?_⟩) (by assumption) ?_
      rotate_left 2
      ·(simp only [List.getElem?_toArray, List.getElem?_cons_zero, List.getElem?_cons_succ]; rfl)
      ·exact fun _ _ _ h => h
      ·rfl
      ·(intro wS hSw; (try dsimp only at hSw); go_simp; (try with_reducible rfl))
      (try simp only [Act.put, List.setIfInBounds_toArray, List.set_cons_zero, List.set_cons_succ])
      refine wpAnyH_ready (rs := [1]) (by kernel_rfl) (by simp) ?_
      refine AllReadyH.cons (o := ?_) ?_ (fun K hK => ?_) AllReadyH.nil
      rotate_left
      ·(simp only [List.getElem?_toArray, List.getElem?_cons_zero, List.getElem?_cons_succ]; rfl)
      go_simp
      skip
      (try go_wp2_with fail)
      refine hK.out _ _ ?_ (fun hHeld' => ?_)
      ·(try dsimp only)
       assumption
      clear hK K hHeld
      have hHeld := hHeld'
      clear hHeld'
      (try simp only [Act.put, List.setIfInBounds_toArray, List.set_cons_zero, List.set_cons_succ])
      refine wpAnyH_take (i := 7) (oi := ?_) (v := ?_) ?_ (by kernel_rfl) (by kernel_rfl) (by kernel_rfl) ?_ (Or.inl ⟨?_, ?_⟩) (by assumption) ?_
      rotate_left 2
      ·(simp only [List.getElem?_toArray, List.getElem?_cons_zero, List.getElem?_cons_succ]; rfl)
      ·exact fun _ _ _ h => h
      ·rfl
      ·(intro wS hSw; (try dsimp only at hSw); go_simp; (try with_reducible rfl))
      (try simp only [Act.put, List.setIfInBounds_toArray, List.set_cons_zero, List.set_cons_succ])
      refine wpAnyH_take (i := 8) (oi := ?_) (v := ?_) ?_ (by kernel_rfl) (by kernel_rfl) (by kernel_rfl) ?_ (Or.inl ⟨?_, ?_⟩) (by assumption) ?_
      rotate_left 2
      ·(simp only [List.getElem?_toArray, List.getElem?_cons_zero, List.getElem?_cons_succ]; rfl)
      ·exact fun _ _ _ h => h
      ·rfl
      ·(intro wS hSw; (try dsimp only at hSw); go_simp; (try with_reducible rfl))
      (try simp only [Act.put, List.setIfInBounds_toArray, List.set_cons_zero, List.set_cons_succ])
      refine wpAnyH_ready (rs := [9]) (by kernel_rfl) (by simp) ?_
      refine AllReadyH.cons (o := ?_) ?_ (fun K hK => ?_) AllReadyH.nil
      rotate_left
      ·(simp only [List.getElem?_toArray, List.getElem?_cons_zero, List.getElem?_cons_succ]; rfl)
      go_simp
      skip
      (try go_wp2_with fail)
      refine hK.out _ _ ?_ (fun hHeld' => ?_)
      ·(try dsimp only)
       exact keep_far wv zb
      clear hK K hHeld
      have hHeld := hHeld'
      clear hHeld'
      (try simp only [Act.put, List.setIfInBounds_toArray, List.set_cons_zero, List.set_cons_succ])
      refine wpAnyH_done (by kernel_rfl) ?_ _
      obtain ⟨X, hX⟩ : ∃ X, X = (U.setCell ⟨w.heap.size, 2, none⟩ (.int .i64 Q)).drew := ⟨_, rfl⟩
      have BX : Below w.heap.size w X := by rw [hX]; exact (BU.setCell (Nat.le_refl _) _).drew
      have qX : X.heap[w.heap.size]? = some (.cells #[.slice r6 m d6, .int .i64 P, .int .i64 Q] 73 (0, 0)) := by rw [hX]; show (U.setCell _ _).heap[_]? = _; rw [heap_setCell_same U _ 2 _ _ _ qU]; rfl
      have zX : U.heap.size ≤ X.heap.size := by rw [hX, drew_size]; simp [World.setCell]
      have o9 : X.ownsRow w2.heap.size 73 3 (.slice r5 k cap5) k (cs.take (k * 3)) := by rw [hX]; exact World.ownsRow.drew (ownsRow_setCell_below o9 (by show w.heap.size < w2.heap.size; omega) _)
      have ho9 : X.ownsRow w5.heap.size 3 1 (.slice r6 m d6) m (zs.map (.int .i64)) := by rw [hX]; exact World.ownsRow.drew (ownsRow_setCell_below ho9 (by show w.heap.size < w5.heap.size; omega) _)
      rw [← hX]
      clear hX hHeld s0 s1 s2 fU qU BU wv
      have s0 : X.cell? ⟨w.heap.size, 0, none⟩ = some (.slice r6 m d6) := by rw [cell_of_row X _ 0 _ _ (0, 0) qX]; rfl
      have s1 : X.cell? ⟨w.heap.size, 1, none⟩ = some (.int .i64 P) := by rw [cell_of_row X _ 1 _ _ (0, 0) qX]; rfl
      have s2 : X.cell? ⟨w.heap.size, 2, none⟩ = some (.int .i64 Q) := by rw [cell_of_row X _ 2 _ _ (0, 0) qX]; rfl
      have hce9 : ∀ j u, cs[j]? = some u → X.cell? ⟨b, off + j, none⟩ = some u := fun j u hj => cell_later BX (CE.out j u hj)
      have hme9 := ME.out.below BX
      have hdl : (cs.drop (k' * 3)).length = (n - k') * 3 := by rw [List.length_drop, hcl]; have := HK.out; omega
      obtain ⟨oE, hif, hdE⟩ : ∃ oE : Nat, (if c = k' then some (⟨b, off, none⟩ : Addr) else some ⟨b, off + k' * 3, none⟩) = some ⟨b, oE, none⟩ ∧ ∀ w0 : World, (∀ j u, cs[j]? = some u → w0.cell? ⟨b, off + j, none⟩ = some u) → ∀ j u, (cs.drop (k' * 3))[j]? = some u → w0.cell? ((⟨b, oE, none⟩ : Addr).add j) = some u := by
       by_cases e : c = k'
       ·refine ⟨off, if_pos e, fun w0 _ j u hj => ?_⟩
        rw [List.drop_of_length_le (by rw [hcl]; have := HK.out; omega)] at hj
        cases hj
       ·exact ⟨off + k' * 3, if_neg e, fun w0 h => drop_cells h _⟩
      have hka : k ≤ n := hk
      have hkb : k' ≤ n := by have := HK.out; omega
      obtain ⟨N7, hN7⟩ : ∃ N7, k + (n - k') = N7 := ⟨_, rfl⟩
      obtain ⟨N8, hN8⟩ : ∃ N8, k + 1 + (n - k') = N8 := ⟨_, rfl⟩
      have HN7 := Hid.mk hN7
      have HN8 := Hid.mk hN8
      clear hN7 hN8
      by_cases h1 : P = 0
      ·have hne1 : (P != 0) = false := by simp [h1]
       by_cases h2 : Q = 0
       ·have hne2 : (Q != 0) = false := by simp [h2]
        have H0 : Hid ((P, Q) = ((0, 0) : Amt)) := by show _ = _; rw [h1, h2]
        clear h1 h2
        go_wp2_with (at_builtin; refine wpList_append_any rfl (.tmp 80) (.tmp 83) 27 rfl w2.heap.size 73 i0 (.agg #[.slice none 0 0, .int .i64 0, .int .i64 0]) 3 40 Try.underlying27 hi hz0 hz1 hz2 rfl (by decide) (.slice r5 k cap5) k (cs.take (k * 3)) rfl o9 ⟨b, oE, none⟩ (n - k') (c - k') (cs.drop (k' * 3)) rfl hdl (hdE _ hce9) (fun u hu => hme9.oneCell u (List.mem_of_mem_drop hu)) (by unfold maxLen; omega) (by omega) (by first | exact Nat.le_refl _ | omega | (simp; omega)) ?_; intro r7 cap7 w7 hown7 hgrow7; rw [HN7.out] at hown7; rw [HN7.out])
        have hb7 : Below w.heap.size w w7 := BX.grown hgrow7 BX.size (fun j hj => by have := (o9.lt j hj).1; omega)
        have hpl : putV ts zs (x, y) = ts.take k ++ ts.drop k' := by rw [HPUT.out, oneV_no H0.out]; simp
        have hln : (ts.take k ++ ts.drop k').length = N7 := by rw [List.length_append, List.length_take, List.length_drop]; have := HK.out; have := HN7.out; omega
        go_ret
        rw [hpl]
        exact ⟨_, _, _, rfl, hln, owns_formed hown7, (((ME.out.below hb7).take k).append ((ME.out.below hb7).drop k')).ownedN hln hown7, hb7⟩
       ·have hne2 : (Q != 0) = true := by simp [h2]
        have H0 : Hid ((P, Q) ≠ ((0, 0) : Amt)) := by show _ ≠ _; intro e; exact h2 (congrArg Prod.snd e)
        clear h1 h2
        go_wp2_with (first | (at_builtin; refine wpList_append_lies _ rfl (.tmp 76) (.tmp 78) 27 rfl w2.heap.size 73 i0 (.agg #[.slice none 0 0, .int .i64 0, .int .i64 0]) 3 40 Try.underlying27 hi hz0 hz1 hz2 rfl (by decide) (.slice r5 k cap5) k (cs.take (k * 3)) rfl (o9.alloc _) ⟨X.heap.size, 0, none⟩ 1 1 [.slice r6 m d6, .int .i64 P, .int .i64 Q] rfl rfl (by simpa using news_at X #[.slice r6 m d6, .int .i64 P, .int .i64 Q] 73) (by intro u hu; simp at hu; rcases hu with rfl | rfl | rfl <;> rfl) (by decide) (by unfold maxLen; omega) (by omega) (by first | omega | (simp; omega)) (X.heap.size + 1) (by simp) ?_; intro g8 cap8 w8 hown8 hgrow8 hat8 hlt8; have hb8 : Below w.heap.size w w8 := (BX.alloc BX.size _).grown hgrow8 (by have := BX.size; simp; omega) (fun j hj => by have := (o9.lt j hj).1; omega); have hce8 : (∀ j u, cs[j]? = some u → w8.cell? ⟨b, off + j, none⟩ = some u) := (fun j u hj => cell_later hb8 (CE.out j u hj)); have hme8 := ME.out.below hb8; have z8 : X.heap.size + 1 ≤ w8.heap.size := (by have := hgrow8.size; simpa using this); have o8 := (ho9.alloc _).kept hgrow8 hap9) | (at_builtin; refine wpList_append_any rfl (.tmp 80) (.tmp 83) 27 rfl w2.heap.size 73 i0 (.agg #[.slice none 0 0, .int .i64 0, .int .i64 0]) 3 40 Try.underlying27 hi hz0 hz1 hz2 rfl (by decide) (.slice (some ⟨g8, 0, none⟩) (k + 1) cap8) (k + 1) (cs.take (k * 3) ++ [.slice r6 m d6, .int .i64 P, .int .i64 Q]) rfl hown8 ⟨b, oE, none⟩ (n - k') (c - k') (cs.drop (k' * 3)) rfl hdl (hdE _ hce8) (fun u hu => hme8.oneCell u (List.mem_of_mem_drop hu)) (by unfold maxLen; omega) (by omega) (by first | exact Nat.le_refl _ | omega | (simp; omega)) ?_; intro r7 cap7 w7 hown7 hgrow7; rw [HN8.out] at hown7; rw [HN8.out]))
        have hb7 : Below w.heap.size w w7 := hb8.grown hgrow7 hb8.size (fun j hj => by have := (hown8.lt j hj).1; omega)
        have o7 := o8.kept hgrow7 (by
         cases hv : (Value.slice r6 m d6).ownBlock with
         | none => exact .inl rfl
         | some j => exact .inr (fun e' => by
          have q6' := lt6 j hv
          simp only [Value.ownBlock, Option.some.injEq] at e'
          rcases hat8 with h8 | h8
          ·have := (lt5 _ h8).2; omega
          ·omega))
        have hpl : putV ts zs (x, y) = ts.take k ++ [(zs, P, Q)] ++ ts.drop k' := by rw [HPUT.out, oneV_yes H0.out]; simp
        have hln : (ts.take k ++ [(zs, P, Q)] ++ ts.drop k').length = N8 := by rw [List.length_append, List.length_append, List.length_take, List.length_drop, List.length_singleton]; have := HK.out; have := HN8.out; omega
        go_ret
        rw [hpl]
        exact ⟨_, _, _, rfl, hln, owns_formed hown7, ((((ME.out.below hb7).take k).append (MeansN.one hz' (by omega) (owns_nil o7) (At.owned o7))).append ((ME.out.below hb7).drop k')).ownedN hln hown7, hb7⟩
      ·have hne1 : (P != 0) = true := by simp [h1]
       have H0 : Hid ((P, Q) ≠ ((0, 0) : Amt)) := by show _ ≠ _; intro e; exact h1 (congrArg Prod.fst e)
       clear h1
       go_wp2_with (first | (at_builtin; refine wpList_append_lies _ rfl (.tmp 76) (.tmp 78) 27 rfl w2.heap.size 73 i0 (.agg #[.slice none 0 0, .int .i64 0, .int .i64 0]) 3 40 Try.underlying27 hi hz0 hz1 hz2 rfl (by decide) (.slice r5 k cap5) k (cs.take (k * 3)) rfl (o9.alloc _) ⟨X.heap.size, 0, none⟩ 1 1 [.slice r6 m d6, .int .i64 P, .int .i64 Q] rfl rfl (by simpa using news_at X #[.slice r6 m d6, .int .i64 P, .int .i64 Q] 73) (by intro u hu; simp at hu; rcases hu with rfl | rfl | rfl <;> rfl) (by decide) (by unfold maxLen; omega) (by omega) (by first | omega | (simp; omega)) (X.heap.size + 1) (by simp) ?_; intro g8 cap8 w8 hown8 hgrow8 hat8 hlt8; have hb8 : Below w.heap.size w w8 := (BX.alloc BX.size _).grown hgrow8 (by have := BX.size; simp; omega) (fun j hj => by have := (o9.lt j hj).1; omega); have hce8 : (∀ j u, cs[j]? = some u → w8.cell? ⟨b, off + j, none⟩ = some u) := (fun j u hj => cell_later hb8 (CE.out j u hj)); have hme8 := ME.out.below hb8; have z8 : X.heap.size + 1 ≤ w8.heap.size := (by have := hgrow8.size; simpa using this); have o8 := (ho9.alloc _).kept hgrow8 hap9) | (at_builtin; refine wpList_append_any rfl (.tmp 80) (.tmp 83) 27 rfl w2.heap.size 73 i0 (.agg #[.slice none 0 0, .int .i64 0, .int .i64 0]) 3 40 Try.underlying27 hi hz0 hz1 hz2 rfl (by decide) (.slice (some ⟨g8, 0, none⟩) (k + 1) cap8) (k + 1) (cs.take (k * 3) ++ [.slice r6 m d6, .int .i64 P, .int .i64 Q]) rfl hown8 ⟨b, oE, none⟩ (n - k') (c - k') (cs.drop (k' * 3)) rfl hdl (hdE _ hce8) (fun u hu => hme8.oneCell u (List.mem_of_mem_drop hu)) (by unfold maxLen; omega) (by omega) (by first | exact Nat.le_refl _ | omega | (simp; omega)) ?_; intro r7 cap7 w7 hown7 hgrow7; rw [HN8.out] at hown7; rw [HN8.out]))
       have hb7 : Below w.heap.size w w7 := hb8.grown hgrow7 hb8.size (fun j hj => by have := (hown8.lt j hj).1; omega)
       have o7 := o8.kept hgrow7 (by
        cases hv : (Value.slice r6 m d6).ownBlock with
        | none => exact .inl rfl
        | some j => exact .inr (fun e' => by
         have q6' := lt6 j hv
         simp only [Value.ownBlock, Option.some.injEq] at e'
         rcases hat8 with h8 | h8
         ·have := (lt5 _ h8).2; omega
         ·omega))
       have hpl : putV ts zs (x, y) = ts.take k ++ [(zs, P, Q)] ++ ts.drop k' := by rw [HPUT.out, oneV_yes H0.out]; simp
       have hln : (ts.take k ++ [(zs, P, Q)] ++ ts.drop k').length = N8 := by rw [List.length_append, List.length_append, List.length_take, List.length_drop, List.length_singleton]; have := HK.out; have := HN8.out; omega
       go_ret
       rw [hpl]
       exact ⟨_, _, _, rfl, hln, owns_formed hown7, ((((ME.out.below hb7).take k).append (MeansN.one hz' (by omega) (owns_nil o7) (At.owned o7))).append ((ME.out.below hb7).drop k')).ownedN hln hown7, hb7⟩
     ·have hcb : (cmp ys zs == 0) = false := by simp [hc0]
      rw [if_neg hc0] at HPW
      have HPUT := Hid.mk HPW
      clear HPW hc0
      have hce9 : ∀ j u, cs[j]? = some u → w10.cell? ⟨b, off + j, none⟩ = some u := fun j u hj => cell_later BX (CE.out j u hj)
      have hme9 := ME.out.below BX
      have hdl : (cs.drop (k * 3)).length = (n - k) * 3 := by rw [List.length_drop, hcl]; omega
      have hka : k ≤ n := hk
      have hkb : k ≤ n := by omega
      obtain ⟨N7, hN7⟩ : ∃ N7, k + (n - k) = N7 := ⟨_, rfl⟩
      obtain ⟨N8, hN8⟩ : ∃ N8, k + 1 + (n - k) = N8 := ⟨_, rfl⟩
      have HN7 := Hid.mk hN7
      have HN8 := Hid.mk hN8
      clear hN7 hN8
      by_cases h1 : x = 0
      ·have hne1 : (x != 0) = false := by simp [h1]
       by_cases h2 : y = 0
       ·have hne2 : (y != 0) = false := by simp [h2]
        have H0 : Hid ((x, y) = ((0, 0) : Amt)) := by show _ = _; rw [h1, h2]
        clear h1 h2
        go_wp2_with (at_builtin; refine wpList_append_any rfl (.tmp 80) (.tmp 83) 27 rfl w2.heap.size 73 i0 (.agg #[.slice none 0 0, .int .i64 0, .int .i64 0]) 3 40 Try.underlying27 hi hz0 hz1 hz2 rfl (by decide) (.slice r5 k cap5) k (cs.take (k * 3)) rfl o9 ⟨b, off + k * 3, none⟩ (n - k) (c - k) (cs.drop (k * 3)) rfl hdl (drop_cells hce9 _) (fun u hu => hme9.oneCell u (List.mem_of_mem_drop hu)) (by unfold maxLen; omega) (by omega) (by first | exact Nat.le_refl _ | omega | (simp; omega)) ?_; intro r7 cap7 w7 hown7 hgrow7; rw [HN7.out] at hown7; rw [HN7.out])
        have hb7 : Below w.heap.size w w7 := BX.grown hgrow7 BX.size (fun j hj => by have := (o9.lt j hj).1; omega)
        have hpl : putV ts zs (x, y) = ts.take k ++ ts.drop k := by rw [HPUT.out, oneV_no H0.out]; simp
        have hln : (ts.take k ++ ts.drop k).length = N7 := by rw [List.length_append, List.length_take, List.length_drop]; have := HN7.out; omega
        go_ret
        rw [hpl]
        exact ⟨_, _, _, rfl, hln, owns_formed hown7, (((ME.out.below hb7).take k).append ((ME.out.below hb7).drop k)).ownedN hln hown7, hb7⟩
       ·have hne2 : (y != 0) = true := by simp [h2]
        have H0 : Hid ((x, y) ≠ ((0, 0) : Amt)) := by show _ ≠ _; intro e; exact h2 (congrArg Prod.snd e)
        clear h1 h2
        go_wp2_with (first | (at_builtin; refine wpList_append_lies _ rfl (.tmp 76) (.tmp 78) 27 rfl w2.heap.size 73 i0 (.agg #[.slice none 0 0, .int .i64 0, .int .i64 0]) 3 40 Try.underlying27 hi hz0 hz1 hz2 rfl (by decide) (.slice r5 k cap5) k (cs.take (k * 3)) rfl (o9.alloc _) ⟨w10.heap.size, 0, none⟩ 1 1 [.slice r6 m d6, .int .i64 x, .int .i64 y] rfl rfl (by simpa using news_at w10 #[.slice r6 m d6, .int .i64 x, .int .i64 y] 73) (by intro u hu; simp at hu; rcases hu with rfl | rfl | rfl <;> rfl) (by decide) (by unfold maxLen; omega) (by omega) (by first | omega | (simp; omega)) (w10.heap.size + 1) (by simp) ?_; intro g8 cap8 w8 hown8 hgrow8 hat8 hlt8; have hb8 : Below w.heap.size w w8 := (BX.alloc BX.size _).grown hgrow8 (by have := BX.size; simp; omega) (fun j hj => by have := (o9.lt j hj).1; omega); have hce8 : (∀ j u, cs[j]? = some u → w8.cell? ⟨b, off + j, none⟩ = some u) := (fun j u hj => cell_later hb8 (CE.out j u hj)); have hme8 := ME.out.below hb8; have z8 : w10.heap.size + 1 ≤ w8.heap.size := (by have := hgrow8.size; simpa using this); have o8 := (ho9.alloc _).kept hgrow8 hap9) | (at_builtin; refine wpList_append_any rfl (.tmp 80) (.tmp 83) 27 rfl w2.heap.size 73 i0 (.agg #[.slice none 0 0, .int .i64 0, .int .i64 0]) 3 40 Try.underlying27 hi hz0 hz1 hz2 rfl (by decide) (.slice (some ⟨g8, 0, none⟩) (k + 1) cap8) (k + 1) (cs.take (k * 3) ++ [.slice r6 m d6, .int .i64 x, .int .i64 y]) rfl hown8 ⟨b, off + k * 3, none⟩ (n - k) (c - k) (cs.drop (k * 3)) rfl hdl (drop_cells hce8 _) (fun u hu => hme8.oneCell u (List.mem_of_mem_drop hu)) (by unfold maxLen; omega) (by omega) (by first | exact Nat.le_refl _ | omega | (simp; omega)) ?_; intro r7 cap7 w7 hown7 hgrow7; rw [HN8.out] at hown7; rw [HN8.out]))
        have hb7 : Below w.heap.size w w7 := hb8.grown hgrow7 hb8.size (fun j hj => by have := (hown8.lt j hj).1; omega)
        have o7 := o8.kept hgrow7 (by
         cases hv : (Value.slice r6 m d6).ownBlock with
         | none => exact .inl rfl
         | some j => exact .inr (fun e' => by
          have q6' := lt6 j hv
          simp only [Value.ownBlock, Option.some.injEq] at e'
          rcases hat8 with h8 | h8
          ·have := (lt5 _ h8).2; omega
          ·omega))
        have hpl : putV ts zs (x, y) = ts.take k ++ [(zs, x, y)] ++ ts.drop k := by rw [HPUT.out, oneV_yes H0.out]; simp
        have hln : (ts.take k ++ [(zs, x, y)] ++ ts.drop k).length = N8 := by rw [List.length_append, List.length_append, List.length_take, List.length_drop, List.length_singleton]; have := HN8.out; omega
        go_ret
        rw [hpl]
        exact ⟨_, _, _, rfl, hln, owns_formed hown7, ((((ME.out.below hb7).take k).append (MeansN.one hz' (by omega) (owns_nil o7) (At.owned o7))).append ((ME.out.below hb7).drop k)).ownedN hln hown7, hb7⟩
      ·have hne1 : (x != 0) = true := by simp [h1]
       have H0 : Hid ((x, y) ≠ ((0, 0) : Amt)) := by show _ ≠ _; intro e; exact h1 (congrArg Prod.fst e)
       clear h1
       go_wp2_with (first | (at_builtin; refine wpList_append_lies _ rfl (.tmp 76) (.tmp 78) 27 rfl w2.heap.size 73 i0 (.agg #[.slice none 0 0, .int .i64 0, .int .i64 0]) 3 40 Try.underlying27 hi hz0 hz1 hz2 rfl (by decide) (.slice r5 k cap5) k (cs.take (k * 3)) rfl (o9.alloc _) ⟨w10.heap.size, 0, none⟩ 1 1 [.slice r6 m d6, .int .i64 x, .int .i64 y] rfl rfl (by simpa using news_at w10 #[.slice r6 m d6, .int .i64 x, .int .i64 y] 73) (by intro u hu; simp at hu; rcases hu with rfl | rfl | rfl <;> rfl) (by decide) (by unfold maxLen; omega) (by omega) (by first | omega | (simp; omega)) (w10.heap.size + 1) (by simp) ?_; intro g8 cap8 w8 hown8 hgrow8 hat8 hlt8; have hb8 : Below w.heap.size w w8 := (BX.alloc BX.size _).grown hgrow8 (by have := BX.size; simp; omega) (fun j hj => by have := (o9.lt j hj).1; omega); have hce8 : (∀ j u, cs[j]? = some u → w8.cell? ⟨b, off + j, none⟩ = some u) := (fun j u hj => cell_later hb8 (CE.out j u hj)); have hme8 := ME.out.below hb8; have z8 : w10.heap.size + 1 ≤ w8.heap.size := (by have := hgrow8.size; simpa using this); have o8 := (ho9.alloc _).kept hgrow8 hap9) | (at_builtin; refine wpList_append_any rfl (.tmp 80) (.tmp 83) 27 rfl w2.heap.size 73 i0 (.agg #[.slice none 0 0, .int .i64 0, .int .i64 0]) 3 40 Try.underlying27 hi hz0 hz1 hz2 rfl (by decide) (.slice (some ⟨g8, 0, none⟩) (k + 1) cap8) (k + 1) (cs.take (k * 3) ++ [.slice r6 m d6, .int .i64 x, .int .i64 y]) rfl hown8 ⟨b, off + k * 3, none⟩ (n - k) (c - k) (cs.drop (k * 3)) rfl hdl (drop_cells hce8 _) (fun u hu => hme8.oneCell u (List.mem_of_mem_drop hu)) (by unfold maxLen; omega) (by omega) (by first | exact Nat.le_refl _ | omega | (simp; omega)) ?_; intro r7 cap7 w7 hown7 hgrow7; rw [HN8.out] at hown7; rw [HN8.out]))
       have hb7 : Below w.heap.size w w7 := hb8.grown hgrow7 hb8.size (fun j hj => by have := (hown8.lt j hj).1; omega)
       have o7 := o8.kept hgrow7 (by
        cases hv : (Value.slice r6 m d6).ownBlock with
        | none => exact .inl rfl
        | some j => exact .inr (fun e' => by
         have q6' := lt6 j hv
         simp only [Value.ownBlock, Option.some.injEq] at e'
         rcases hat8 with h8 | h8
         ·have := (lt5 _ h8).2; omega
         ·omega))
       have hpl : putV ts zs (x, y) = ts.take k ++ [(zs, x, y)] ++ ts.drop k := by rw [HPUT.out, oneV_yes H0.out]; simp
       have hln : (ts.take k ++ [(zs, x, y)] ++ ts.drop k).length = N8 := by rw [List.length_append, List.length_append, List.length_take, List.length_drop, List.length_singleton]; have := HN8.out; omega
       go_ret
       rw [hpl]
       exact ⟨_, _, _, rfl, hln, owns_formed hown7, ((((ME.out.below hb7).take k).append (MeansN.one hz' (by omega) (owns_nil o7) (At.owned o7))).append ((ME.out.below hb7).drop k)).ownedN hln hown7, hb7⟩
   ·obtain rfl : k = n := by omega
    have HPUT : Hid (putV ts zs (x, y) = ts.take k ++ (oneV zs (x, y) ++ ts.drop k)) := by
     show _ = _
     rw [putV_at zs (x, y) ts k (by omega) hlow (fun h => absurd h (by omega)), List.drop_of_length_le (by omega)]
     simp [restV]
    have hnp : decide (k < k) = false := by simp
    clear hlow
    go_wp2_with fail
    refine wp_region_held_drew (S := fun w' => w'.cell? ⟨w.heap.size, 0, none⟩ = some (.slice a' m c')) (by kernel_rfl) ?_ (fun hHeld => ?_)
    ·(try dsimp only)
     exact g0
    refine wpAnyH_take (i := 0) (oi := ?_) (v := ?_) ?_ (by kernel_rfl) (by kernel_rfl) (by kernel_rfl) ?_ (Or.inl ⟨?_, ?_⟩) (by assumption) ?_
    rotate_left 2
    ·(simp only [List.getElem?_toArray, List.getElem?_cons_zero]; rfl)
    ·exact fun _ _ _ h => h
    ·rfl
    ·(intro wS hSw; (try dsimp only at hSw); go_simp; (try with_reducible rfl))
    (try simp only [Act.put, List.setIfInBounds_toArray, List.set_cons_zero, List.set_cons_succ])
    refine wpAnyH_take (i := 1) (oi := ?_) (v := ?_) ?_ (by kernel_rfl) (by kernel_rfl) (by kernel_rfl) ?_ (Or.inl ⟨?_, ?_⟩) (by assumption) ?_
    rotate_left 2
    ·(simp only [List.getElem?_toArray, List.getElem?_cons_zero, List.getElem?_cons_succ]; rfl)
    ·exact fun _ _ _ h => h
    ·rfl
    ·(intro wS hSw; (try dsimp only at hSw); go_simp; (try with_reducible rfl))
    (try simp only [Act.put, List.setIfInBounds_toArray, List.set_cons_zero, List.set_cons_succ])
    refine wpAnyH_take (i := 2) (oi := ?_) (v := ?_) ?_ (by kernel_rfl) (by kernel_rfl) (by kernel_rfl) ?_ (Or.inl ⟨?_, ?_⟩) (by assumption) ?_
    rotate_left 2
    ·(simp only [List.getElem?_toArray, List.getElem?_cons_zero, List.getElem?_cons_succ]; rfl)
    ·exact fun _ _ _ h => h
    ·rfl
    ·(intro wS hSw; (try dsimp only at hSw); go_simp; (try with_reducible rfl))
    (try simp only [Act.put, List.setIfInBounds_toArray, List.set_cons_zero, List.set_cons_succ])
    refine wpAnyH_take (i := 3) (oi := ?_) (v := ?_) ?_ (by kernel_rfl) (by kernel_rfl) (by kernel_rfl) ?_ (Or.inl ⟨?_, ?_⟩) (by assumption) ?_
    rotate_left 2
    ·(simp only [List.getElem?_toArray, List.getElem?_cons_zero, List.getElem?_cons_succ]; rfl)
    ·exact fun _ _ _ h => h
    ·rfl
    ·(intro wS hSw; (try dsimp only at hSw); go_simp; (try with_reducible rfl))
    (try simp only [Act.put, List.setIfInBounds_toArray, List.set_cons_zero, List.set_cons_succ])
    refine wpAnyH_take (i := 4) (oi := ?_) (v := ?_) ?_ (by kernel_rfl) (by kernel_rfl) (by kernel_rfl) ?_ (Or.inl ⟨?_, ?_⟩) (by assumption) ?_
    rotate_left 2
    ·(simp only [List.getElem?_toArray, List.getElem?_cons_zero, List.getElem?_cons_succ]; rfl)
    ·exact fun _ _ _ h => h
    ·rfl
    ·(intro wS hSw; (try dsimp only at hSw); go_simp; (try with_reducible rfl))
    (try simp only [Act.put, List.setIfInBounds_toArray, List.set_cons_zero, List.set_cons_succ])
    refine wpAnyH_take (i := 5) (oi := ?_) (v := undef) ?_ (by kernel_rfl) (by kernel_rfl) (by kernel_rfl) ?_ (Or.inr ⟨?_, rfl⟩) (by assumption) ?_
    rotate_left
    ·(simp only [List.getElem?_toArray, List.getElem?_cons_zero, List.getElem?_cons_succ]; rfl)
    ·exact fun _ _ _ h => h
    ·rfl
    (try simp only [Act.put, List.setIfInBounds_toArray, List.set_cons_zero, List.set_cons_succ])
    refine wpAnyH_take (i := 6) (oi := ?_) (v := undef) ?_ (by kernel_rfl) (by kernel_rfl) (by kernel_rfl) ?_ (Or.inr ⟨?_, rfl⟩) (by assumption) ?_
    rotate_left
    ·(simp only [List.getElem?_toArray, List.getElem?_cons_zero, List.getElem?_cons_succ]; rfl)
    ·exact fun _ _ _ h => h
    ·rfl
    (try simp only [Act.put, List.setIfInBounds_toArray, List.set_cons_zero, List.set_cons_succ])
    refine wpAnyH_take (i := 7) (oi := ?_) (v := undef) ?_ (by kernel_rfl) (by kernel_rfl) (by kernel_rfl) ?_ (Or.inr ⟨?_, rfl⟩) (by assumption) ?_
    rotate_left
    ·(simp only [List.getElem?_toArray, List.getElem?_cons_zero, List.getElem?_cons_succ]; rfl)
    ·exact fun _ _ _ h => h
    ·rfl
    (try simp only [Act.put, List.setIfInBounds_toArray, List.set_cons_zero, List.set_cons_succ])
    refine wpAnyH_take (i := 8) (oi := ?_) (v := undef) ?_ (by kernel_rfl) (by kernel_rfl) (by kernel_rfl) ?_ (Or.inr ⟨?_, rfl⟩) (by assumption) ?_
    rotate_left
    ·(simp only [List.getElem?_toArray, List.getElem?_cons_zero, List.getElem?_cons_succ]; rfl)
    ·exact fun _ _ _ h => h
    ·rfl
    (try simp only [Act.put, List.setIfInBounds_toArray, List.set_cons_zero, List.set_cons_succ])
    refine wpAnyH_take (i := 9) (oi := ?_) (v := undef) ?_ (by kernel_rfl) (by kernel_rfl) (by kernel_rfl) ?_ (Or.inr ⟨?_, rfl⟩) (by assumption) ?_
    rotate_left
    ·(simp only [List.getElem?_toArray, List.getElem?_cons_zero, List.getElem?_cons_succ]; rfl)
    ·exact fun _ _ _ h => h
    ·rfl
    (try simp only [Act.put, List.setIfInBounds_toArray, List.set_cons_zero, List.set_cons_succ])
    refine wpAnyH_take (i := 10) (oi := ?_) (v := undef) ?_ (by kernel_rfl) (by kernel_rfl) (by kernel_rfl) ?_ (Or.inr ⟨?_, rfl⟩) (by assumption) ?_
    rotate_left
    ·(simp only [List.getElem?_toArray, List.getElem?_cons_zero, List.getElem?_cons_succ]; rfl)
    ·exact fun _ _ _ h => h
    ·rfl
    (try simp only [Act.put, List.setIfInBounds_toArray, List.set_cons_zero, List.set_cons_succ])
    refine wpAnyH_take (i := 11) (oi := ?_) (v := undef) ?_ (by kernel_rfl) (by kernel_rfl) (by kernel_rfl) ?_ (Or.inr ⟨?_, rfl⟩) (by assumption) ?_
    rotate_left
    ·(simp only [List.getElem?_toArray, List.getElem?_cons_zero, List.getElem?_cons_succ]; rfl)
    ·exact fun _ _ _ h => h
    ·rfl
    (try simp only [Act.put, List.setIfInBounds_toArray, List.set_cons_zero, List.set_cons_succ])
    refine wpAnyH_take (i := 12) (oi := ?_) (v := undef) ?_ (by kernel_rfl) (by kernel_rfl) (by kernel_rfl) ?_ (Or.inr ⟨?_, rfl⟩) (by assumption) ?_
    rotate_left
    ·(simp only [List.getElem?_toArray, List.getElem?_cons_zero, List.getElem?_cons_succ]; rfl)
    ·exact fun _ _ _ h => h
    ·rfl
    (try simp only [Act.put, List.setIfInBounds_toArray, List.set_cons_zero, List.set_cons_succ])
    refine wpAnyH_take (i := 13) (oi := ?_) (v := undef) ?_ (by kernel_rfl) (by kernel_rfl) (by kernel_rfl) ?_ (Or.inr ⟨?_, rfl⟩) (by assumption) ?_
    rotate_left
    ·(simp only [List.getElem?_toArray, List.getElem?_cons_zero, List.getElem?_cons_succ]; rfl)
    ·exact fun _ _ _ h => h
    ·rfl
    (try simp only [Act.put, List.setIfInBounds_toArray, List.set_cons_zero, List.set_cons_succ])
    refine wpAnyH_take (i := 14) (oi := ?_) (v := ?_) ?_ (by kernel_rfl) (by kernel_rfl) (by kernel_rfl) ?_ (Or.inl ⟨?_, ?_⟩) (by assumption) ?_
    rotate_left 2
    ·(simp only [List.getElem?_toArray, List.getElem?_cons_zero, List.getElem?_cons_succ]; rfl)
    ·exact fun _ _ _ h => h
    ·rfl
    ·(intro wS hSw; (try dsimp only at hSw); go_simp; (try with_reducible rfl))
    (try simp only [Act.put, List.setIfInBounds_toArray, List.set_cons_zero, List.set_cons_succ])
    refine wpAnyH_done (by kernel_rfl) ?_ _
    obtain ⟨w2, hw2⟩ : ∃ w2, w2 = wr.drew := ⟨_, rfl⟩
    have V3 : Below W.heap.size W w2 := by rw [hw2]; exact hbw.drew
    rw [← hw2]
    clear hw2 hHeld g0 g1 g2 hbw B2 q1
    have B3 : Below w.heap.size w w2 := B0.trans (V3.mono B0.size)
    have z2 := V3.size
    have q2 := (V3.block w.heap.size (by omega)).trans q0
    have hce2 : ∀ j u, cs[j]? = some u → w2.cell? ⟨b, off + j, none⟩ = some u := fun j u hj => cell_later B3 (CE.out j u hj)
    have hme2 := ME.out.below B3
    have htl : (cs.take (k * 3)).length = k * 3 := by rw [List.length_take, hcl]; omega
    have h0 : w2.cell? ⟨w.heap.size, 0, none⟩ = some (.slice a' m c') := by rw [cell_of_row w2 _ 0 _ _ (0, 0) q2]; rfl
    have h1 : w2.cell? ⟨w.heap.size, 1, none⟩ = some (.int .i64 x) := by rw [cell_of_row w2 _ 1 _ _ (0, 0) q2]; rfl
    have h2 : w2.cell? ⟨w.heap.size, 2, none⟩ = some (.int .i64 y) := by rw [cell_of_row w2 _ 2 _ _ (0, 0) q2]; rfl
    go_wp2_with (at_builtin; refine wpList_append_any rfl (.tmp 24) (.tmp 27) 27 rfl w2.heap.size 73 i0 (.agg #[.slice none 0 0, .int .i64 0, .int .i64 0]) 3 40 Try.underlying27 hi hz0 hz1 hz2 rfl (by decide) (.slice none 0 0) 0 [] rfl (World.ownsRow_nil _ _ _ _) ⟨b, off, none⟩ k c (cs.take (k * 3)) rfl htl (take_cells hce2 _) (fun u hu => hme2.oneCell u (List.mem_of_mem_take hu)) (by unfold maxLen; omega) (by omega) (by first | exact Nat.le_refl _ | omega | (simp; omega)) ?_; intro r5 cap5 w5 hown5 hgrow5; have hb5 : Below w2.heap.size w2 w5 := (Below.refl _ _).grown hgrow5 (Nat.le_refl _) (by simp [Value.ownBlock]); have p0 := cell_later hb5 h0; rw [Nat.zero_add] at hown5; rw [Nat.zero_add])
    rw [List.nil_append] at hown5
    have B5 : Below w.heap.size w w5 := B3.trans (hb5.mono B3.size)
    refine (l2OwnRow_any _ _ _ zs _ hz' (by omega) hnil (HR0.out.below B5)).mono ?_
    rintro e w6 ⟨r6, d6, rfl, ho6, hb6⟩
    have z5 := hb5.size
    have z6 := hb6.size
    have B6 : Below w.heap.size w w6 := B5.trans (hb6.mono B5.size)
    have q6 := (hb6.block w.heap.size (by omega)).trans ((hb5.block w.heap.size (by omega)).trans q2)
    have f6 := frozen_of_row w6 _ 0 _ _ q6
    have t0 : w6.cell? ⟨w.heap.size, 0, none⟩ = some (.slice a' m c') := by rw [cell_of_row w6 _ 0 _ _ (0, 0) q6]; rfl
    have t1 : w6.cell? ⟨w.heap.size, 1, none⟩ = some (.int .i64 x) := by rw [cell_of_row w6 _ 1 _ _ (0, 0) q6]; rfl
    have t2 : w6.cell? ⟨w.heap.size, 2, none⟩ = some (.int .i64 y) := by rw [cell_of_row w6 _ 2 _ _ (0, 0) q6]; rfl
    obtain ⟨V, hV⟩ : ∃ V, V = w6.setCell ⟨w.heap.size, 0, none⟩ (.slice r6 m d6) := ⟨_, rfl⟩
    have zV : w6.heap.size ≤ V.heap.size := by rw [hV]; simp [World.setCell]
    have BV : Below w.heap.size w V := by rw [hV]; exact B6.setCell (Nat.le_refl _) _
    have qV : V.heap[w.heap.size]? = some (.cells #[.slice r6 m d6, .int .i64 x, .int .i64 y] 73 (0, 0)) := by rw [hV, heap_setCell_same w6 _ 0 _ _ _ q6]; rfl
    have o9 : V.ownsRow w2.heap.size 73 3 (.slice r5 k cap5) k (cs.take (k * 3)) := by rw [hV]; exact ownsRow_setCell_below (owns_below hown5 hb6) (by show w.heap.size < w2.heap.size; omega) _
    have ho9 : V.ownsRow w5.heap.size 3 1 (.slice r6 m d6) m (zs.map (.int .i64)) := by rw [hV]; exact ownsRow_setCell_below ho6 (by show w.heap.size < w5.heap.size; omega) _
    have lt5 : ∀ j, (Value.slice r5 k cap5).ownBlock = some j → w2.heap.size ≤ j ∧ j < w5.heap.size := fun j hj => hown5.lt j hj
    have lt6 : ∀ j, (Value.slice r6 m d6).ownBlock = some j → w5.heap.size ≤ j ∧ j < w6.heap.size := fun j hj => ho6.lt j hj
    have hap9 : (Value.slice r6 m d6).ownBlock = none ∨ (Value.slice r6 m d6).ownBlock ≠ (Value.slice r5 k cap5).ownBlock := by
     cases hv : (Value.slice r6 m d6).ownBlock with
     | none => exact .inl rfl
     | some j => exact .inr (fun e' => by have := (lt5 j e'.symm).2; have := (lt6 j hv).1; omega)
    have c0 : V.cell? ⟨w.heap.size, 0, none⟩ = some (.slice r6 m d6) := by rw [cell_of_row V _ 0 _ _ (0, 0) qV]; rfl
    have c1 : V.cell? ⟨w.heap.size, 1, none⟩ = some (.int .i64 x) := by rw [cell_of_row V _ 1 _ _ (0, 0) qV]; rfl
    have c2 : V.cell? ⟨w.heap.size, 2, none⟩ = some (.int .i64 y) := by rw [cell_of_row V _ 2 _ _ (0, 0) qV]; rfl
    go_wp2_with fail
    rw [← hV]
    clear hV
    refine wp_region_held_drew (S := fun w' => w'.cell? ⟨w.heap.size, 0, none⟩ = some (.slice r6 m d6)) (by kernel_rfl) ?_ (fun hHeld => ?_)
    ·(try dsimp only)
     exact c0
    refine wpAnyH_take (i := 0) (oi := ?_) (v := ?_) ?_ (by kernel_rfl) (by kernel_rfl) (by kernel_rfl) ?_ (Or.inl ⟨?_, ?_⟩) (by assumption) ?_
    rotate_left 2
    ·(simp only [List.getElem?_toArray, List.getElem?_cons_zero]; rfl)
    ·exact fun _ _ _ h => h
    ·rfl
    ·(intro wS hSw; (try dsimp only at hSw); go_simp; (try with_reducible rfl))
    (try simp only [Act.put, List.setIfInBounds_toArray, List.set_cons_zero, List.set_cons_succ])
    refine wpAnyH_take (i := 1) (oi := ?_) (v := ?_) ?_ (by kernel_rfl) (by kernel_rfl) (by kernel_rfl) ?_ (Or.inl ⟨?_, ?_⟩) (by assumption) ?_
    rotate_left 2
    ·(simp only [List.getElem?_toArray, List.getElem?_cons_zero, List.getElem?_cons_succ]; rfl)
    ·exact fun _ _ _ h => h
    ·rfl
    ·(intro wS hSw; (try dsimp only at hSw); go_simp; (try with_reducible rfl))
    (try simp only [Act.put, List.setIfInBounds_toArray, List.set_cons_zero, List.set_cons_succ])
    refine wpAnyH_take (i := 2) (oi := ?_) (v := ?_) ?_ (by kernel_rfl) (by kernel_rfl) (by kernel_rfl) ?_ (Or.inl ⟨?_, ?_⟩) (by assumption) ?_
    rotate_left 2
    ·(simp only [List.getElem?_toArray, List.getElem?_cons_zero, List.getElem?_cons_succ]; rfl)
    ·exact fun _ _ _ h => h
    ·rfl
    ·(intro wS hSw; (try dsimp only at hSw); go_simp; (try with_reducible rfl))
    (try simp only [Act.put, List.setIfInBounds_toArray, List.set_cons_zero, List.set_cons_succ])
    refine wpAnyH_take (i := 3) (oi := ?_) (v := ?_) ?_ (by kernel_rfl) (by kernel_rfl) (by kernel_rfl) ?_ (Or.inl ⟨?_, ?_⟩) (by assumption) ?_
    rotate_left 2
    ·(simp only [List.getElem?_toArray, List.getElem?_cons_zero, List.getElem?_cons_succ]; rfl)
    ·exact fun _ _ _ h => h
    ·rfl
    ·(intro wS hSw; (try dsimp only at hSw); go_simp; (try with_reducible rfl))
    (try simp only [Act.put, List.setIfInBounds_toArray, List.set_cons_zero, List.set_cons_succ])
    refine wpAnyH_take (i := 4) (oi := ?_) (v := ?_) ?_ (by kernel_rfl) (by kernel_rfl) (by kernel_rfl) ?_ (Or.inl ⟨?_, ?_⟩) (by assumption) ?_
    rotate_left 2
    ·(simp only [List.getElem?_toArray, List.getElem?_cons_zero, List.getElem?_cons_succ]; rfl)
    ·exact fun _ _ _ h => h
    ·rfl
    ·(intro wS hSw; (try dsimp only at hSw); go_simp; (try with_reducible rfl))
    (try simp only [Act.put, List.setIfInBounds_toArray, List.set_cons_zero, List.set_cons_succ])
    refine wpAnyH_take (i := 5) (oi := ?_) (v := undef) ?_ (by kernel_rfl) (by kernel_rfl) (by kernel_rfl) ?_ (Or.inr ⟨?_, rfl⟩) (by assumption) ?_
    rotate_left
    ·(simp only [List.getElem?_toArray, List.getElem?_cons_zero, List.getElem?_cons_succ]; rfl)
    ·exact fun _ _ _ h => h
    ·rfl
    (try simp only [Act.put, List.setIfInBounds_toArray, List.set_cons_zero, List.set_cons_succ])
    refine wpAnyH_take (i := 6) (oi := ?_) (v := undef) ?_ (by kernel_rfl) (by kernel_rfl) (by kernel_rfl) ?_ (Or.inr ⟨?_, rfl⟩) (by assumption) ?_
    rotate_left
    ·(simp only [List.getElem?_toArray, List.getElem?_cons_zero, List.getElem?_cons_succ]; rfl)
    ·exact fun _ _ _ h => h
    ·rfl
    (try simp only [Act.put, List.setIfInBounds_toArray, List.set_cons_zero, List.set_cons_succ])
    refine wpAnyH_take (i := 7) (oi := ?_) (v := undef) ?_ (by kernel_rfl) (by kernel_rfl) (by kernel_rfl) ?_ (Or.inr ⟨?_, rfl⟩) (by assumption) ?_
    rotate_left
    ·(simp only [List.getElem?_toArray, List.getElem?_cons_zero, List.getElem?_cons_succ]; rfl)
    ·exact fun _ _ _ h => h
    ·rfl
    (try simp only [Act.put, List.setIfInBounds_toArray, List.set_cons_zero, List.set_cons_succ])
    refine wpAnyH_take (i := 8) (oi := ?_) (v := undef) ?_ (by kernel_rfl) (by kernel_rfl) (by kernel_rfl) ?_ (Or.inr ⟨?_, rfl⟩) (by assumption) ?_
    rotate_left
    ·(simp only [List.getElem?_toArray, List.getElem?_cons_zero, List.getElem?_cons_succ]; rfl)
    ·exact fun _ _ _ h => h
    ·rfl
    (try simp only [Act.put, List.setIfInBounds_toArray, List.set_cons_zero, List.set_cons_succ])
    refine wpAnyH_take (i := 9) (oi := ?_) (v := undef) ?_ (by kernel_rfl) (by kernel_rfl) (by kernel_rfl) ?_ (Or.inr ⟨?_, rfl⟩) (by assumption) ?_
    rotate_left
    ·(simp only [List.getElem?_toArray, List.getElem?_cons_zero, List.getElem?_cons_succ]; rfl)
    ·exact fun _ _ _ h => h
    ·rfl
    (try simp only [Act.put, List.setIfInBounds_toArray, List.set_cons_zero, List.set_cons_succ])
    refine wpAnyH_take (i := 10) (oi := ?_) (v := undef) ?_ (by kernel_rfl) (by kernel_rfl) (by kernel_rfl) ?_ (Or.inr ⟨?_, rfl⟩) (by assumption) ?_
    rotate_left
    ·(simp only [List.getElem?_toArray, List.getElem?_cons_zero, List.getElem?_cons_succ]; rfl)
    ·exact fun _ _ _ h => h
    ·rfl
    (try simp only [Act.put, List.setIfInBounds_toArray, List.set_cons_zero, List.set_cons_succ])
    refine wpAnyH_take (i := 11) (oi := ?_) (v := undef) ?_ (by kernel_rfl) (by kernel_rfl) (by kernel_rfl) ?_ (Or.inr ⟨?_, rfl⟩) (by assumption) ?_
    rotate_left
    ·(simp only [List.getElem?_toArray, List.getElem?_cons_zero, List.getElem?_cons_succ]; rfl)
    ·exact fun _ _ _ h => h
    ·rfl
    (try simp only [Act.put, List.setIfInBounds_toArray, List.set_cons_zero, List.set_cons_succ])
    refine wpAnyH_take (i := 12) (oi := ?_) (v := undef) ?_ (by kernel_rfl) (by kernel_rfl) (by kernel_rfl) ?_ (Or.inr ⟨?_, rfl⟩) (by assumption) ?_
    rotate_left
    ·(simp only [List.getElem?_toArray, List.getElem?_cons_zero, List.getElem?_cons_succ]; rfl)
    ·exact fun _ _ _ h => h
    ·rfl
    (try simp only [Act.put, List.setIfInBounds_toArray, List.set_cons_zero, List.set_cons_succ])
    refine wpAnyH_take (i := 13) (oi := ?_) (v := undef) ?_ (by kernel_rfl) (by kernel_rfl) (by kernel_rfl) ?_ (Or.inr ⟨?_, rfl⟩) (by assumption) ?_
    rotate_left
    ·(simp only [List.getElem?_toArray, List.getElem?_cons_zero, List.getElem?_cons_succ]; rfl)
    ·exact fun _ _ _ h => h
    ·rfl
    (try simp only [Act.put, List.setIfInBounds_toArray, List.set_cons_zero, List.set_cons_succ])
    refine wpAnyH_take (i := 14) (oi := ?_) (v := ?_) ?_ (by kernel_rfl) (by kernel_rfl) (by kernel_rfl) ?_ (Or.inl ⟨?_, ?_⟩) (by assumption) ?_
    rotate_left 2
    ·(simp only [List.getElem?_toArray, List.getElem?_cons_zero, List.getElem?_cons_succ]; rfl)
    ·exact fun _ _ _ h => h
    ·rfl
    ·(intro wS hSw; (try dsimp only at hSw); go_simp; (try with_reducible rfl))
    (try simp only [Act.put, List.setIfInBounds_toArray, List.set_cons_zero, List.set_cons_succ])
    refine wpAnyH_done (by kernel_rfl) ?_ _
    obtain ⟨X, hX⟩ : ∃ X, X = V.drew := ⟨_, rfl⟩
    have VX : Below V.heap.size V X := by rw [hX]; exact (Below.refl _ _).drew
    have BX : Below w.heap.size w X := BV.trans (VX.mono BV.size)
    have zX := VX.size
    have o9 := owns_below o9 VX
    have ho9 := owns_below ho9 VX
    have qX := (VX.block w.heap.size (by omega)).trans qV
    rw [← hX]
    clear hHeld hX c0 c1 c2 t0 t1 t2 h0 h1 h2 p0
    have s0 : X.cell? ⟨w.heap.size, 0, none⟩ = some (.slice r6 m d6) := by rw [cell_of_row X _ 0 _ _ (0, 0) qX]; rfl
    have s1 : X.cell? ⟨w.heap.size, 1, none⟩ = some (.int .i64 x) := by rw [cell_of_row X _ 1 _ _ (0, 0) qX]; rfl
    have s2 : X.cell? ⟨w.heap.size, 2, none⟩ = some (.int .i64 y) := by rw [cell_of_row X _ 2 _ _ (0, 0) qX]; rfl
    have hce9 : ∀ j u, cs[j]? = some u → X.cell? ⟨b, off + j, none⟩ = some u := fun j u hj => cell_later BX (CE.out j u hj)
    have hme9 := ME.out.below BX
    have hdl : (cs.drop (k * 3)).length = 0 * 3 := by rw [List.length_drop, hcl]; omega
    obtain ⟨oE, hif, hdE⟩ : ∃ oE : Nat, (if c = k then some (⟨b, off, none⟩ : Addr) else some ⟨b, off + k * 3, none⟩) = some ⟨b, oE, none⟩ ∧ ∀ w0 : World, (∀ j u, cs[j]? = some u → w0.cell? ⟨b, off + j, none⟩ = some u) → ∀ j u, (cs.drop (k * 3))[j]? = some u → w0.cell? ((⟨b, oE, none⟩ : Addr).add j) = some u := by
     by_cases e : c = k
     ·refine ⟨off, if_pos e, fun w0 _ j u hj => ?_⟩
      rw [List.drop_of_length_le (by rw [hcl]; omega)] at hj
      cases hj
     ·exact ⟨off + k * 3, if_neg e, fun w0 h => drop_cells h _⟩
    have hka : k ≤ k := hk
    have hkb : k ≤ k := by omega
    obtain ⟨N7, hN7⟩ : ∃ N7, k + 0 = N7 := ⟨_, rfl⟩
    obtain ⟨N8, hN8⟩ : ∃ N8, k + 1 + 0 = N8 := ⟨_, rfl⟩
    have HN7 := Hid.mk hN7
    have HN8 := Hid.mk hN8
    clear hN7 hN8
    by_cases h1 : x = 0
    ·have hne1 : (x != 0) = false := by simp [h1]
     by_cases h2 : y = 0
     ·have hne2 : (y != 0) = false := by simp [h2]
      have H0 : Hid ((x, y) = ((0, 0) : Amt)) := by show _ = _; rw [h1, h2]
      clear h1 h2
      go_wp2_with (at_builtin; refine wpList_append_any rfl (.tmp 80) (.tmp 83) 27 rfl w2.heap.size 73 i0 (.agg #[.slice none 0 0, .int .i64 0, .int .i64 0]) 3 40 Try.underlying27 hi hz0 hz1 hz2 rfl (by decide) (.slice r5 k cap5) k (cs.take (k * 3)) rfl o9 ⟨b, oE, none⟩ 0 (c - k) (cs.drop (k * 3)) rfl hdl (hdE _ hce9) (fun u hu => hme9.oneCell u (List.mem_of_mem_drop hu)) (by unfold maxLen; omega) (by omega) (by first | exact Nat.le_refl _ | omega | (simp; omega)) ?_; intro r7 cap7 w7 hown7 hgrow7; rw [HN7.out] at hown7; rw [HN7.out])
      have hb7 : Below w.heap.size w w7 := BX.grown hgrow7 BX.size (fun j hj => by have := (o9.lt j hj).1; omega)
      have hpl : putV ts zs (x, y) = ts.take k ++ ts.drop k := by rw [HPUT.out, oneV_no H0.out]; simp
      have hln : (ts.take k ++ ts.drop k).length = N7 := by rw [List.length_append, List.length_take, List.length_drop]; have := HN7.out; omega
      go_ret
      rw [hpl]
      exact ⟨_, _, _, rfl, hln, owns_formed hown7, (((ME.out.below hb7).take k).append ((ME.out.below hb7).drop k)).ownedN hln hown7, hb7⟩
     ·have hne2 : (y != 0) = true := by simp [h2]
      have H0 : Hid ((x, y) ≠ ((0, 0) : Amt)) := by show _ ≠ _; intro e; exact h2 (congrArg Prod.snd e)
      clear h1 h2
      go_wp2_with (first | (at_builtin; refine wpList_append_lies _ rfl (.tmp 76) (.tmp 78) 27 rfl w2.heap.size 73 i0 (.agg #[.slice none 0 0, .int .i64 0, .int .i64 0]) 3 40 Try.underlying27 hi hz0 hz1 hz2 rfl (by decide) (.slice r5 k cap5) k (cs.take (k * 3)) rfl (o9.alloc _) ⟨X.heap.size, 0, none⟩ 1 1 [.slice r6 m d6, .int .i64 x, .int .i64 y] rfl rfl (by simpa using news_at X #[.slice r6 m d6, .int .i64 x, .int .i64 y] 73) (by intro u hu; simp at hu; rcases hu with rfl | rfl | rfl <;> rfl) (by decide) (by unfold maxLen; omega) (by omega) (by first | omega | (simp; omega)) (X.heap.size + 1) (by simp) ?_; intro g8 cap8 w8 hown8 hgrow8 hat8 hlt8; have hb8 : Below w.heap.size w w8 := (BX.alloc BX.size _).grown hgrow8 (by have := BX.size; simp; omega) (fun j hj => by have := (o9.lt j hj).1; omega); have hce8 : (∀ j u, cs[j]? = some u → w8.cell? ⟨b, off + j, none⟩ = some u) := (fun j u hj => cell_later hb8 (CE.out j u hj)); have hme8 := ME.out.below hb8; have z8 : X.heap.size + 1 ≤ w8.heap.size := (by have := hgrow8.size; simpa using this); have o8 := (ho9.alloc _).kept hgrow8 hap9) | (at_builtin; refine wpList_append_any rfl (.tmp 80) (.tmp 83) 27 rfl w2.heap.size 73 i0 (.agg #[.slice none 0 0, .int .i64 0, .int .i64 0]) 3 40 Try.underlying27 hi hz0 hz1 hz2 rfl (by decide) (.slice (some ⟨g8, 0, none⟩) (k + 1) cap8) (k + 1) (cs.take (k * 3) ++ [.slice r6 m d6, .int .i64 x, .int .i64 y]) rfl hown8 ⟨b, oE, none⟩ 0 (c - k) (cs.drop (k * 3)) rfl hdl (hdE _ hce8) (fun u hu => hme8.oneCell u (List.mem_of_mem_drop hu)) (by unfold maxLen; omega) (by omega) (by first | exact Nat.le_refl _ | omega | (simp; omega)) ?_; intro r7 cap7 w7 hown7 hgrow7; rw [HN8.out] at hown7; rw [HN8.out]))
      have hb7 : Below w.heap.size w w7 := hb8.grown hgrow7 hb8.size (fun j hj => by have := (hown8.lt j hj).1; omega)
      have o7 := o8.kept hgrow7 (by
       cases hv : (Value.slice r6 m d6).ownBlock with
       | none => exact .inl rfl
       | some j => exact .inr (fun e' => by
        have q6' := lt6 j hv
        simp only [Value.ownBlock, Option.some.injEq] at e'
        rcases hat8 with h8 | h8
        ·have := (lt5 _ h8).2; omega
        ·omega))
      have hpl : putV ts zs (x, y) = ts.take k ++ [(zs, x, y)] ++ ts.drop k := by rw [HPUT.out, oneV_yes H0.out]; simp
      have hln : (ts.take k ++ [(zs, x, y)] ++ ts.drop k).length = N8 := by rw [List.length_append, List.length_append, List.length_take, List.length_drop, List.length_singleton]; have := HN8.out; omega
      go_ret
      rw [hpl]
      exact ⟨_, _, _, rfl, hln, owns_formed hown7, ((((ME.out.below hb7).take k).append (MeansN.one hz' (by omega) (owns_nil o7) (At.owned o7))).append ((ME.out.below hb7).drop k)).ownedN hln hown7, hb7⟩
    ·have hne1 : (x != 0) = true := by simp [h1]
     have H0 : Hid ((x, y) ≠ ((0, 0) : Amt)) := by show _ ≠ _; intro e; exact h1 (congrArg Prod.fst e)
     clear h1
     go_wp2_with (first | (at_builtin; refine wpList_append_lies _ rfl (.tmp 76) (.tmp 78) 27 rfl w2.heap.size 73 i0 (.agg #[.slice none 0 0, .int .i64 0, .int .i64 0]) 3 40 Try.underlying27 hi hz0 hz1 hz2 rfl (by decide) (.slice r5 k cap5) k (cs.take (k * 3)) rfl (o9.alloc _) ⟨X.heap.size, 0, none⟩ 1 1 [.slice r6 m d6, .int .i64 x, .int .i64 y] rfl rfl (by simpa using news_at X #[.slice r6 m d6, .int .i64 x, .int .i64 y] 73) (by intro u hu; simp at hu; rcases hu with rfl | rfl | rfl <;> rfl) (by decide) (by unfold maxLen; omega) (by omega) (by first | omega | (simp; omega)) (X.heap.size + 1) (by simp) ?_; intro g8 cap8 w8 hown8 hgrow8 hat8 hlt8; have hb8 : Below w.heap.size w w8 := (BX.alloc BX.size _).grown hgrow8 (by have := BX.size; simp; omega) (fun j hj => by have := (o9.lt j hj).1; omega); have hce8 : (∀ j u, cs[j]? = some u → w8.cell? ⟨b, off + j, none⟩ = some u) := (fun j u hj => cell_later hb8 (CE.out j u hj)); have hme8 := ME.out.below hb8; have z8 : X.heap.size + 1 ≤ w8.heap.size := (by have := hgrow8.size; simpa using this); have o8 := (ho9.alloc _).kept hgrow8 hap9) | (at_builtin; refine wpList_append_any rfl (.tmp 80) (.tmp 83) 27 rfl w2.heap.size 73 i0 (.agg #[.slice none 0 0, .int .i64 0, .int .i64 0]) 3 40 Try.underlying27 hi hz0 hz1 hz2 rfl (by decide) (.slice (some ⟨g8, 0, none⟩) (k + 1) cap8) (k + 1) (cs.take (k * 3) ++ [.slice r6 m d6, .int .i64 x, .int .i64 y]) rfl hown8 ⟨b, oE, none⟩ 0 (c - k) (cs.drop (k * 3)) rfl hdl (hdE _ hce8) (fun u hu => hme8.oneCell u (List.mem_of_mem_drop hu)) (by unfold maxLen; omega) (by omega) (by first | exact Nat.le_refl _ | omega | (simp; omega)) ?_; intro r7 cap7 w7 hown7 hgrow7; rw [HN8.out] at hown7; rw [HN8.out]))
     have hb7 : Below w.heap.size w w7 := hb8.grown hgrow7 hb8.size (fun j hj => by have := (hown8.lt j hj).1; omega)
     have o7 := o8.kept hgrow7 (by
      cases hv : (Value.slice r6 m d6).ownBlock with
      | none => exact .inl rfl
      | some j => exact .inr (fun e' => by
       have q6' := lt6 j hv
       simp only [Value.ownBlock, Option.some.injEq] at e'
       rcases hat8 with h8 | h8
       ·have := (lt5 _ h8).2; omega
       ·omega))
     have hpl : putV ts zs (x, y) = ts.take k ++ [(zs, x, y)] ++ ts.drop k := by rw [HPUT.out, oneV_yes H0.out]; simp
     have hln : (ts.take k ++ [(zs, x, y)] ++ ts.drop k).length = N8 := by rw [List.length_append, List.length_append, List.length_take, List.length_drop, List.length_singleton]; have := HN8.out; omega
     go_ret
     rw [hpl]
     exact ⟨_, _, _, rfl, hln, owns_formed hown7, ((((ME.out.below hb7).take k).append (MeansN.one hz' (by omega) (owns_nil o7) (At.owned o7))).append ((ME.out.below hb7).drop k)).ownedN hln hown7, hb7⟩

set_option maxRecDepth 100000 in
set_option maxHeartbeats 8000000 in
theorem l5Put_none (a' : Option Addr) (n m c c' : Nat) (ts : List GRow) (zs : List Int) (x y : Int) (w : World) (hz : ts.length = n) (hz' : zs.length = m) (hn : n ≤ 1048576) (hcap : n ≤ c) (l6 : m ≤ 6) (hnil : a' = none → c' = 0)
   (hgr : ∀ k, k < n → (gat ts k).1.length ≤ 6 ∧ InA 2000000000000000000 (gat ts k).2) (_hx : InA 2000000000000000000 (x, y)) (hc0 : (none : Option Addr) = none → c = 0) (ha : AtN w none ts) (ha' : At w a' zs) :
   Calls Try.prog 40 #[.slice none n c, .agg #[.slice a' m c', .int .i64 x, .int .i64 y]] w fun e w' => ∃ r k d, e = .returned (.slice r k d) ∧ (putV ts zs (x, y)).length = k ∧ Formed r k d ∧ AtN w' r (putV ts zs (x, y)) ∧ Below w.heap.size w w' := by
  obtain rfl : ts = [] := by
   rcases ha with h | ⟨_, _, _, h, _⟩
   ·exact h
   ·cases h
  obtain rfl : n = 0 := by simpa using hz.symm
  obtain rfl : c = 0 := hc0 rfl
  obtain ⟨i0, hi, hz0, hz1, hz2⟩ := info_parts Try.infoV
  obtain ⟨W, hW⟩ : ∃ W, W = w.alloc (.cells #[.slice a' m c', .int .i64 x, .int .i64 y] 73) := ⟨_, rfl⟩
  have zW : W.heap.size = w.heap.size + 1 := by rw [hW]; simp
  have B0 : Below w.heap.size w W := by rw [hW]; exact (Below.refl _ _).alloc (Nat.le_refl _) _
  have q0 : W.heap[w.heap.size]? = some (.cells #[.slice a' m c', .int .i64 x, .int .i64 y] 73 (0, 0)) := by rw [hW]; exact heap_alloc_new w _
  have HR0 := Hid.mk ha'
  clear ha ha' hgr hz
  go_enter Try.func40, Try.ntmps40
  go_wp2
  rw [← hW]
  clear hW
  refine wp_loop_rounds 1 ?_
  rw [rounds_succ]
  have g0 : W.cell? ⟨w.heap.size, 0, none⟩ = some (.slice a' m c') := by rw [cell_of_row W _ 0 _ _ (0, 0) q0]; rfl
  have g1 : W.cell? ⟨w.heap.size, 1, none⟩ = some (.int .i64 x) := by rw [cell_of_row W _ 1 _ _ (0, 0) q0]; rfl
  have g2 : W.cell? ⟨w.heap.size, 2, none⟩ = some (.int .i64 y) := by rw [cell_of_row W _ 2 _ _ (0, 0) q0]; rfl
  go_wp2_with fail
  refine wp_region_held_drew (S := fun w' => w'.cell? ⟨w.heap.size, 0, none⟩ = some (.slice a' m c')) (by kernel_rfl) ?_ (fun hHeld => ?_)
  ·(try dsimp only)
   exact g0
  refine wpAnyH_take (i := 0) (oi := ?_) (v := ?_) ?_ (by kernel_rfl) (by kernel_rfl) (by kernel_rfl) ?_ (Or.inl ⟨?_, ?_⟩) (by assumption) ?_
  rotate_left 2
  ·(simp only [List.getElem?_toArray, List.getElem?_cons_zero]; rfl)
  ·exact fun _ _ _ h => h
  ·rfl
  ·(intro wS hSw; (try dsimp only at hSw); go_simp; (try with_reducible rfl))
  (try simp only [Act.put, List.setIfInBounds_toArray, List.set_cons_zero, List.set_cons_succ])
  refine wpAnyH_take (i := 1) (oi := ?_) (v := ?_) ?_ (by kernel_rfl) (by kernel_rfl) (by kernel_rfl) ?_ (Or.inl ⟨?_, ?_⟩) (by assumption) ?_
  rotate_left 2
  ·(simp only [List.getElem?_toArray, List.getElem?_cons_zero, List.getElem?_cons_succ]; rfl)
  ·exact fun _ _ _ h => h
  ·rfl
  ·(intro wS hSw; (try dsimp only at hSw); go_simp; (try with_reducible rfl))
  (try simp only [Act.put, List.setIfInBounds_toArray, List.set_cons_zero, List.set_cons_succ])
  refine wpAnyH_take (i := 2) (oi := ?_) (v := ?_) ?_ (by kernel_rfl) (by kernel_rfl) (by kernel_rfl) ?_ (Or.inl ⟨?_, ?_⟩) (by assumption) ?_
  rotate_left 2
  ·(simp only [List.getElem?_toArray, List.getElem?_cons_zero, List.getElem?_cons_succ]; rfl)
  ·exact fun _ _ _ h => h
  ·rfl
  ·(intro wS hSw; (try dsimp only at hSw); go_simp; (try with_reducible rfl))
  (try simp only [Act.put, List.setIfInBounds_toArray, List.set_cons_zero, List.set_cons_succ])
  refine wpAnyH_take (i := 3) (oi := ?_) (v := ?_) ?_ (by kernel_rfl) (by kernel_rfl) (by kernel_rfl) ?_ (Or.inl ⟨?_, ?_⟩) (by assumption) ?_
  rotate_left 2
  ·(simp only [List.getElem?_toArray, List.getElem?_cons_zero, List.getElem?_cons_succ]; rfl)
  ·exact fun _ _ _ h => h
  ·rfl
  ·(intro wS hSw; (try dsimp only at hSw); go_simp; (try with_reducible rfl))
  (try simp only [Act.put, List.setIfInBounds_toArray, List.set_cons_zero, List.set_cons_succ])
  refine wpAnyH_take (i := 4) (oi := ?_) (v := ?_) ?_ (by kernel_rfl) (by kernel_rfl) (by kernel_rfl) ?_ (Or.inl ⟨?_, ?_⟩) (by assumption) ?_
  rotate_left 2
  ·(simp only [List.getElem?_toArray, List.getElem?_cons_zero, List.getElem?_cons_succ]; rfl)
  ·exact fun _ _ _ h => h
  ·rfl
  ·(intro wS hSw; (try dsimp only at hSw); go_simp; (try with_reducible rfl))
  (try simp only [Act.put, List.setIfInBounds_toArray, List.set_cons_zero, List.set_cons_succ])
  refine wpAnyH_take (i := 5) (oi := ?_) (v := undef) ?_ (by kernel_rfl) (by kernel_rfl) (by kernel_rfl) ?_ (Or.inr ⟨?_, rfl⟩) (by assumption) ?_
  rotate_left
  ·(simp only [List.getElem?_toArray, List.getElem?_cons_zero, List.getElem?_cons_succ]; rfl)
  ·exact fun _ _ _ h => h
  ·rfl
  (try simp only [Act.put, List.setIfInBounds_toArray, List.set_cons_zero, List.set_cons_succ])
  refine wpAnyH_take (i := 6) (oi := ?_) (v := undef) ?_ (by kernel_rfl) (by kernel_rfl) (by kernel_rfl) ?_ (Or.inr ⟨?_, rfl⟩) (by assumption) ?_
  rotate_left
  ·(simp only [List.getElem?_toArray, List.getElem?_cons_zero, List.getElem?_cons_succ]; rfl)
  ·exact fun _ _ _ h => h
  ·rfl
  (try simp only [Act.put, List.setIfInBounds_toArray, List.set_cons_zero, List.set_cons_succ])
  refine wpAnyH_take (i := 7) (oi := ?_) (v := undef) ?_ (by kernel_rfl) (by kernel_rfl) (by kernel_rfl) ?_ (Or.inr ⟨?_, rfl⟩) (by assumption) ?_
  rotate_left
  ·(simp only [List.getElem?_toArray, List.getElem?_cons_zero, List.getElem?_cons_succ]; rfl)
  ·exact fun _ _ _ h => h
  ·rfl
  (try simp only [Act.put, List.setIfInBounds_toArray, List.set_cons_zero, List.set_cons_succ])
  refine wpAnyH_take (i := 8) (oi := ?_) (v := undef) ?_ (by kernel_rfl) (by kernel_rfl) (by kernel_rfl) ?_ (Or.inr ⟨?_, rfl⟩) (by assumption) ?_
  rotate_left
  ·(simp only [List.getElem?_toArray, List.getElem?_cons_zero, List.getElem?_cons_succ]; rfl)
  ·exact fun _ _ _ h => h
  ·rfl
  (try simp only [Act.put, List.setIfInBounds_toArray, List.set_cons_zero, List.set_cons_succ])
  refine wpAnyH_take (i := 9) (oi := ?_) (v := undef) ?_ (by kernel_rfl) (by kernel_rfl) (by kernel_rfl) ?_ (Or.inr ⟨?_, rfl⟩) (by assumption) ?_
  rotate_left
  ·(simp only [List.getElem?_toArray, List.getElem?_cons_zero, List.getElem?_cons_succ]; rfl)
  ·exact fun _ _ _ h => h
  ·rfl
  (try simp only [Act.put, List.setIfInBounds_toArray, List.set_cons_zero, List.set_cons_succ])
  refine wpAnyH_take (i := 10) (oi := ?_) (v := undef) ?_ (by kernel_rfl) (by kernel_rfl) (by kernel_rfl) ?_ (Or.inr ⟨?_, rfl⟩) (by assumption) ?_
  rotate_left
  ·(simp only [List.getElem?_toArray, List.getElem?_cons_zero, List.getElem?_cons_succ]; rfl)
  ·exact fun _ _ _ h => h
  ·rfl
  (try simp only [Act.put, List.setIfInBounds_toArray, List.set_cons_zero, List.set_cons_succ])
  refine wpAnyH_take (i := 11) (oi := ?_) (v := undef) ?_ (by kernel_rfl) (by kernel_rfl) (by kernel_rfl) ?_ (Or.inr ⟨?_, rfl⟩) (by assumption) ?_
  rotate_left
  ·(simp only [List.getElem?_toArray, List.getElem?_cons_zero, List.getElem?_cons_succ]; rfl)
  ·exact fun _ _ _ h => h
  ·rfl
  (try simp only [Act.put, List.setIfInBounds_toArray, List.set_cons_zero, List.set_cons_succ])
  refine wpAnyH_take (i := 12) (oi := ?_) (v := undef) ?_ (by kernel_rfl) (by kernel_rfl) (by kernel_rfl) ?_ (Or.inr ⟨?_, rfl⟩) (by assumption) ?_
  rotate_left
  ·(simp only [List.getElem?_toArray, List.getElem?_cons_zero, List.getElem?_cons_succ]; rfl)
  ·exact fun _ _ _ h => h
  ·rfl
  (try simp only [Act.put, List.setIfInBounds_toArray, List.set_cons_zero, List.set_cons_succ])
  refine wpAnyH_take (i := 13) (oi := ?_) (v := undef) ?_ (by kernel_rfl) (by kernel_rfl) (by kernel_rfl) ?_ (Or.inr ⟨?_, rfl⟩) (by assumption) ?_
  rotate_left
  ·(simp only [List.getElem?_toArray, List.getElem?_cons_zero, List.getElem?_cons_succ]; rfl)
  ·exact fun _ _ _ h => h
  ·rfl
  (try simp only [Act.put, List.setIfInBounds_toArray, List.set_cons_zero, List.set_cons_succ])
  refine wpAnyH_take (i := 14) (oi := ?_) (v := ?_) ?_ (by kernel_rfl) (by kernel_rfl) (by kernel_rfl) ?_ (Or.inl ⟨?_, ?_⟩) (by assumption) ?_
  rotate_left 2
  ·(simp only [List.getElem?_toArray, List.getElem?_cons_zero, List.getElem?_cons_succ]; rfl)
  ·exact fun _ _ _ h => h
  ·rfl
  ·(intro wS hSw; (try dsimp only at hSw); go_simp; (try with_reducible rfl))
  (try simp only [Act.put, List.setIfInBounds_toArray, List.set_cons_zero, List.set_cons_succ])
  refine wpAnyH_done (by kernel_rfl) ?_ _
  obtain ⟨w2, hw2⟩ : ∃ w2, w2 = W.drew := ⟨_, rfl⟩
  have V2 : Below W.heap.size W w2 := by rw [hw2]; exact (Below.refl _ _).drew
  have B3 := B0.trans (V2.mono B0.size)
  have z2 := V2.size
  have q2 := (V2.block w.heap.size (by omega)).trans q0
  rw [← hw2]
  clear hw2 hHeld g0 g1 g2
  have h0 : w2.cell? ⟨w.heap.size, 0, none⟩ = some (.slice a' m c') := by rw [cell_of_row w2 _ 0 _ _ (0, 0) q2]; rfl
  have h1 : w2.cell? ⟨w.heap.size, 1, none⟩ = some (.int .i64 x) := by rw [cell_of_row w2 _ 1 _ _ (0, 0) q2]; rfl
  have h2 : w2.cell? ⟨w.heap.size, 2, none⟩ = some (.int .i64 y) := by rw [cell_of_row w2 _ 2 _ _ (0, 0) q2]; rfl
  go_wp2_with (at_builtin; refine wpList_append_own_none rfl (.tmp 24) (.tmp 27) 27 rfl w2.heap.size 73 i0 3 Try.underlying27 hi (.slice none 0 0) 0 [] rfl (World.ownsRow_nil _ _ _ _) rfl ?_)
  refine (l2OwnRow_any _ _ _ zs _ hz' (by omega) hnil (HR0.out.below B3)).mono ?_
  rintro e w6 ⟨r6, d6, rfl, ho6, hb6⟩
  have z6 := hb6.size
  have B6 : Below w.heap.size w w6 := B3.trans (hb6.mono B3.size)
  have q6 := (hb6.block w.heap.size (by omega)).trans q2
  have f6 := frozen_of_row w6 _ 0 _ _ q6
  have t0 : w6.cell? ⟨w.heap.size, 0, none⟩ = some (.slice a' m c') := by rw [cell_of_row w6 _ 0 _ _ (0, 0) q6]; rfl
  have t1 : w6.cell? ⟨w.heap.size, 1, none⟩ = some (.int .i64 x) := by rw [cell_of_row w6 _ 1 _ _ (0, 0) q6]; rfl
  have t2 : w6.cell? ⟨w.heap.size, 2, none⟩ = some (.int .i64 y) := by rw [cell_of_row w6 _ 2 _ _ (0, 0) q6]; rfl
  obtain ⟨V, hV⟩ : ∃ V, V = w6.setCell ⟨w.heap.size, 0, none⟩ (.slice r6 m d6) := ⟨_, rfl⟩
  have zV : w6.heap.size ≤ V.heap.size := by rw [hV]; simp [World.setCell]
  have BV : Below w.heap.size w V := by rw [hV]; exact B6.setCell (Nat.le_refl _) _
  have qV : V.heap[w.heap.size]? = some (.cells #[.slice r6 m d6, .int .i64 x, .int .i64 y] 73 (0, 0)) := by rw [hV, heap_setCell_same w6 _ 0 _ _ _ q6]; rfl
  have ho9 : V.ownsRow w2.heap.size 3 1 (.slice r6 m d6) m (zs.map (.int .i64)) := by rw [hV]; exact ownsRow_setCell_below ho6 (by show w.heap.size < w2.heap.size; omega) _
  have lt6 : ∀ j, (Value.slice r6 m d6).ownBlock = some j → j < w6.heap.size := fun j hj => (ho6.lt j hj).2
  have c0 : V.cell? ⟨w.heap.size, 0, none⟩ = some (.slice r6 m d6) := by rw [cell_of_row V _ 0 _ _ (0, 0) qV]; rfl
  have c1 : V.cell? ⟨w.heap.size, 1, none⟩ = some (.int .i64 x) := by rw [cell_of_row V _ 1 _ _ (0, 0) qV]; rfl
  have c2 : V.cell? ⟨w.heap.size, 2, none⟩ = some (.int .i64 y) := by rw [cell_of_row V _ 2 _ _ (0, 0) qV]; rfl
  go_wp2_with fail
  rw [← hV]
  clear hV
  refine wp_region_held_drew (S := fun w' => w'.cell? ⟨w.heap.size, 0, none⟩ = some (.slice r6 m d6)) (by kernel_rfl) ?_ (fun hHeld => ?_)
  ·(try dsimp only)
   exact c0
  refine wpAnyH_take (i := 0) (oi := ?_) (v := ?_) ?_ (by kernel_rfl) (by kernel_rfl) (by kernel_rfl) ?_ (Or.inl ⟨?_, ?_⟩) (by assumption) ?_
  rotate_left 2
  ·(simp only [List.getElem?_toArray, List.getElem?_cons_zero]; rfl)
  ·exact fun _ _ _ h => h
  ·rfl
  ·(intro wS hSw; (try dsimp only at hSw); go_simp; (try with_reducible rfl))
  (try simp only [Act.put, List.setIfInBounds_toArray, List.set_cons_zero, List.set_cons_succ])
  refine wpAnyH_take (i := 1) (oi := ?_) (v := ?_) ?_ (by kernel_rfl) (by kernel_rfl) (by kernel_rfl) ?_ (Or.inl ⟨?_, ?_⟩) (by assumption) ?_
  rotate_left 2
  ·(simp only [List.getElem?_toArray, List.getElem?_cons_zero, List.getElem?_cons_succ]; rfl)
  ·exact fun _ _ _ h => h
  ·rfl
  ·(intro wS hSw; (try dsimp only at hSw); go_simp; (try with_reducible rfl))
  (try simp only [Act.put, List.setIfInBounds_toArray, List.set_cons_zero, List.set_cons_succ])
  refine wpAnyH_take (i := 2) (oi := ?_) (v := ?_) ?_ (by kernel_rfl) (by kernel_rfl) (by kernel_rfl) ?_ (Or.inl ⟨?_, ?_⟩) (by assumption) ?_
  rotate_left 2
  ·(simp only [List.getElem?_toArray, List.getElem?_cons_zero, List.getElem?_cons_succ]; rfl)
  ·exact fun _ _ _ h => h
  ·rfl
  ·(intro wS hSw; (try dsimp only at hSw); go_simp; (try with_reducible rfl))
  (try simp only [Act.put, List.setIfInBounds_toArray, List.set_cons_zero, List.set_cons_succ])
  refine wpAnyH_take (i := 3) (oi := ?_) (v := ?_) ?_ (by kernel_rfl) (by kernel_rfl) (by kernel_rfl) ?_ (Or.inl ⟨?_, ?_⟩) (by assumption) ?_
  rotate_left 2
  ·(simp only [List.getElem?_toArray, List.getElem?_cons_zero, List.getElem?_cons_succ]; rfl)
  ·exact fun _ _ _ h => h
  ·rfl
  ·(intro wS hSw; (try dsimp only at hSw); go_simp; (try with_reducible rfl))
  (try simp only [Act.put, List.setIfInBounds_toArray, List.set_cons_zero, List.set_cons_succ])
  refine wpAnyH_take (i := 4) (oi := ?_) (v := ?_) ?_ (by kernel_rfl) (by kernel_rfl) (by kernel_rfl) ?_ (Or.inl ⟨?_, ?_⟩) (by assumption) ?_
  rotate_left 2
  ·(simp only [List.getElem?_toArray, List.getElem?_cons_zero, List.getElem?_cons_succ]; rfl)
  ·exact fun _ _ _ h => h
  ·rfl
  ·(intro wS hSw; (try dsimp only at hSw); go_simp; (try with_reducible rfl))
  (try simp only [Act.put, List.setIfInBounds_toArray, List.set_cons_zero, List.set_cons_succ])
  refine wpAnyH_take (i := 5) (oi := ?_) (v := undef) ?_ (by kernel_rfl) (by kernel_rfl) (by kernel_rfl) ?_ (Or.inr ⟨?_, rfl⟩) (by assumption) ?_
  rotate_left
  ·(simp only [List.getElem?_toArray, List.getElem?_cons_zero, List.getElem?_cons_succ]; rfl)
  ·exact fun _ _ _ h => h
  ·rfl
  (try simp only [Act.put, List.setIfInBounds_toArray, List.set_cons_zero, List.set_cons_succ])
  refine wpAnyH_take (i := 6) (oi := ?_) (v := undef) ?_ (by kernel_rfl) (by kernel_rfl) (by kernel_rfl) ?_ (Or.inr ⟨?_, rfl⟩) (by assumption) ?_
  rotate_left
  ·(simp only [List.getElem?_toArray, List.getElem?_cons_zero, List.getElem?_cons_succ]; rfl)
  ·exact fun _ _ _ h => h
  ·rfl
  (try simp only [Act.put, List.setIfInBounds_toArray, List.set_cons_zero, List.set_cons_succ])
  refine wpAnyH_take (i := 7) (oi := ?_) (v := undef) ?_ (by kernel_rfl) (by kernel_rfl) (by kernel_rfl) ?_ (Or.inr ⟨?_, rfl⟩) (by assumption) ?_
  rotate_left
  ·(simp only [List.getElem?_toArray, List.getElem?_cons_zero, List.getElem?_cons_succ]; rfl)
  ·exact fun _ _ _ h => h
  ·rfl
  (try simp only [Act.put, List.setIfInBounds_toArray, List.set_cons_zero, List.set_cons_succ])
  refine wpAnyH_take (i := 8) (oi := ?_) (v := undef) ?_ (by kernel_rfl) (by kernel_rfl) (by kernel_rfl) ?_ (Or.inr ⟨?_, rfl⟩) (by assumption) ?_
  rotate_left
  ·(simp only [List.getElem?_toArray, List.getElem?_cons_zero, List.getElem?_cons_succ]; rfl)
  ·exact fun _ _ _ h => h
  ·rfl
  (try simp only [Act.put, List.setIfInBounds_toArray, List.set_cons_zero, List.set_cons_succ])
  refine wpAnyH_take (i := 9) (oi := ?_) (v := undef) ?_ (by kernel_rfl) (by kernel_rfl) (by kernel_rfl) ?_ (Or.inr ⟨?_, rfl⟩) (by assumption) ?_
  rotate_left
  ·(simp only [List.getElem?_toArray, List.getElem?_cons_zero, List.getElem?_cons_succ]; rfl)
  ·exact fun _ _ _ h => h
  ·rfl
  (try simp only [Act.put, List.setIfInBounds_toArray, List.set_cons_zero, List.set_cons_succ])
  refine wpAnyH_take (i := 10) (oi := ?_) (v := undef) ?_ (by kernel_rfl) (by kernel_rfl) (by kernel_rfl) ?_ (Or.inr ⟨?_, rfl⟩) (by assumption) ?_
  rotate_left
  ·(simp only [List.getElem?_toArray, List.getElem?_cons_zero, List.getElem?_cons_succ]; rfl)
  ·exact fun _ _ _ h => h
  ·rfl
  (try simp only [Act.put, List.setIfInBounds_toArray, List.set_cons_zero, List.set_cons_succ])
  refine wpAnyH_take (i := 11) (oi := ?_) (v := undef) ?_ (by kernel_rfl) (by kernel_rfl) (by kernel_rfl) ?_ (Or.inr ⟨?_, rfl⟩) (by assumption) ?_
  rotate_left
  ·(simp only [List.getElem?_toArray, List.getElem?_cons_zero, List.getElem?_cons_succ]; rfl)
  ·exact fun _ _ _ h => h
  ·rfl
  (try simp only [Act.put, List.setIfInBounds_toArray, List.set_cons_zero, List.set_cons_succ])
  refine wpAnyH_take (i := 12) (oi := ?_) (v := undef) ?_ (by kernel_rfl) (by kernel_rfl) (by kernel_rfl) ?_ (Or.inr ⟨?_, rfl⟩) (by assumption) ?_
  rotate_left
  ·(simp only [List.getElem?_toArray, List.getElem?_cons_zero, List.getElem?_cons_succ]; rfl)
  ·exact fun _ _ _ h => h
  ·rfl
  (try simp only [Act.put, List.setIfInBounds_toArray, List.set_cons_zero, List.set_cons_succ])
  refine wpAnyH_take (i := 13) (oi := ?_) (v := undef) ?_ (by kernel_rfl) (by kernel_rfl) (by kernel_rfl) ?_ (Or.inr ⟨?_, rfl⟩) (by assumption) ?_
  rotate_left
  ·(simp only [List.getElem?_toArray, List.getElem?_cons_zero, List.getElem?_cons_succ]; rfl)
  ·exact fun _ _ _ h => h
  ·rfl
  (try simp only [Act.put, List.setIfInBounds_toArray, List.set_cons_zero, List.set_cons_succ])
  refine wpAnyH_take (i := 14) (oi := ?_) (v := ?_) ?_ (by kernel_rfl) (by kernel_rfl) (by kernel_rfl) ?_ (Or.inl ⟨?_, ?_⟩) (by assumption) ?_
  rotate_left 2
  ·(simp only [List.getElem?_toArray, List.getElem?_cons_zero, List.getElem?_cons_succ]; rfl)
  ·exact fun _ _ _ h => h
  ·rfl
  ·(intro wS hSw; (try dsimp only at hSw); go_simp; (try with_reducible rfl))
  (try simp only [Act.put, List.setIfInBounds_toArray, List.set_cons_zero, List.set_cons_succ])
  refine wpAnyH_done (by kernel_rfl) ?_ _
  obtain ⟨X, hX⟩ : ∃ X, X = V.drew := ⟨_, rfl⟩
  have VX : Below V.heap.size V X := by rw [hX]; exact (Below.refl _ _).drew
  have BX : Below w.heap.size w X := BV.trans (VX.mono BV.size)
  have zX := VX.size
  have ho9 := owns_below ho9 VX
  have qX := (VX.block w.heap.size (by omega)).trans qV
  rw [← hX]
  clear hHeld hX c0 c1 c2 t0 t1 t2 h0 h1 h2
  have s0 : X.cell? ⟨w.heap.size, 0, none⟩ = some (.slice r6 m d6) := by rw [cell_of_row X _ 0 _ _ (0, 0) qX]; rfl
  have s1 : X.cell? ⟨w.heap.size, 1, none⟩ = some (.int .i64 x) := by rw [cell_of_row X _ 1 _ _ (0, 0) qX]; rfl
  have s2 : X.cell? ⟨w.heap.size, 2, none⟩ = some (.int .i64 y) := by rw [cell_of_row X _ 2 _ _ (0, 0) qX]; rfl
  by_cases h1 : x = 0
  ·have hne1 : (x != 0) = false := by simp [h1]
   by_cases h2 : y = 0
   ·have hne2 : (y != 0) = false := by simp [h2]
    have H0 : Hid ((x, y) = ((0, 0) : Amt)) := by show _ = _; rw [h1, h2]
    clear h1 h2
    go_wp2_with (at_builtin; refine wpList_append_own_none rfl (.tmp 80) (.tmp 83) 27 rfl w2.heap.size 73 i0 3 Try.underlying27 hi (.slice none 0 0) 0 [] rfl (World.ownsRow_nil _ _ _ _) rfl ?_)
    go_ret
    have hp : putV [] zs (x, y) = [] := oneV_no H0.out
    rw [hp]
    exact ⟨_, _, _, rfl, rfl, Formed.nil, atN_nil _ _, BX⟩
   ·have hne2 : (y != 0) = true := by simp [h2]
    have H0 : Hid ((x, y) ≠ ((0, 0) : Amt)) := by show _ ≠ _; intro e; exact h2 (congrArg Prod.snd e)
    clear h1 h2
    go_wp2_with (first | (at_builtin; refine wpList_append_lies _ rfl (.tmp 76) (.tmp 78) 27 rfl w2.heap.size 73 i0 (.agg #[.slice none 0 0, .int .i64 0, .int .i64 0]) 3 40 Try.underlying27 hi hz0 hz1 hz2 rfl (by decide) (.slice none 0 0) 0 [] rfl (World.ownsRow_nil _ _ _ _) ⟨X.heap.size, 0, none⟩ 1 1 [.slice r6 m d6, .int .i64 x, .int .i64 y] rfl rfl (by simpa using news_at X #[.slice r6 m d6, .int .i64 x, .int .i64 y] 73) (by intro u hu; simp at hu; rcases hu with rfl | rfl | rfl <;> rfl) (by decide) (by unfold maxLen; omega) (by omega) (by first | omega | (simp; omega)) (X.heap.size + 1) (by simp) ?_; intro g8 cap8 w8 hown8 hgrow8 hat8 hlt8) | (at_builtin; refine wpList_append_own_none rfl (.tmp 80) (.tmp 83) 27 rfl w2.heap.size 73 i0 3 Try.underlying27 hi (.slice (some ⟨g8, 0, none⟩) 1 cap8) 1 _ rfl hown8 rfl ?_))
    have o8 := (ho9.alloc (.cells #[.slice r6 m d6, .int .i64 x, .int .i64 y] 73)).kept hgrow8 (by
     cases hv : (Value.slice r6 m d6).ownBlock with
     | none => exact .inl rfl
     | some j => exact .inr (fun e' => by cases e'))
    have hb8 : Below w.heap.size w w8 := (BX.alloc BX.size _).grown hgrow8 (by have := BX.size; simp; omega) (fun j hj => by simp [Value.ownBlock] at hj)
    have hp : putV [] zs (x, y) = [(zs, x, y)] := oneV_yes H0.out
    go_ret
    rw [hp]
    exact ⟨_, _, _, rfl, rfl, owns_formed hown8, (MeansN.one hz' (by omega) (owns_nil o8) (At.owned o8)).ownedN rfl hown8, hb8⟩
  ·have hne1 : (x != 0) = true := by simp [h1]
   have H0 : Hid ((x, y) ≠ ((0, 0) : Amt)) := by show _ ≠ _; intro e; exact h1 (congrArg Prod.fst e)
   clear h1
   go_wp2_with (first | (at_builtin; refine wpList_append_lies _ rfl (.tmp 76) (.tmp 78) 27 rfl w2.heap.size 73 i0 (.agg #[.slice none 0 0, .int .i64 0, .int .i64 0]) 3 40 Try.underlying27 hi hz0 hz1 hz2 rfl (by decide) (.slice none 0 0) 0 [] rfl (World.ownsRow_nil _ _ _ _) ⟨X.heap.size, 0, none⟩ 1 1 [.slice r6 m d6, .int .i64 x, .int .i64 y] rfl rfl (by simpa using news_at X #[.slice r6 m d6, .int .i64 x, .int .i64 y] 73) (by intro u hu; simp at hu; rcases hu with rfl | rfl | rfl <;> rfl) (by decide) (by unfold maxLen; omega) (by omega) (by first | omega | (simp; omega)) (X.heap.size + 1) (by simp) ?_; intro g8 cap8 w8 hown8 hgrow8 hat8 hlt8) | (at_builtin; refine wpList_append_own_none rfl (.tmp 80) (.tmp 83) 27 rfl w2.heap.size 73 i0 3 Try.underlying27 hi (.slice (some ⟨g8, 0, none⟩) 1 cap8) 1 _ rfl hown8 rfl ?_))
   have o8 := (ho9.alloc (.cells #[.slice r6 m d6, .int .i64 x, .int .i64 y] 73)).kept hgrow8 (by
    cases hv : (Value.slice r6 m d6).ownBlock with
    | none => exact .inl rfl
    | some j => exact .inr (fun e' => by cases e'))
   have hb8 : Below w.heap.size w w8 := (BX.alloc BX.size _).grown hgrow8 (by have := BX.size; simp; omega) (fun j hj => by simp [Value.ownBlock] at hj)
   have hp : putV [] zs (x, y) = [(zs, x, y)] := oneV_yes H0.out
   go_ret
   rw [hp]
   exact ⟨_, _, _, rfl, rfl, owns_formed hown8, (MeansN.one hz' (by omega) (owns_nil o8) (At.owned o8)).ownedN rfl hown8, hb8⟩

theorem l5Put_any (a a' : Option Addr) (n m c c' : Nat) (ts : List GRow) (zs : List Int) (x y : Int) (w : World) (hz : ts.length = n) (hz' : zs.length = m) (hn : n ≤ 1048576) (hF : Formed a n c) (l6 : m ≤ 6) (hnil : a' = none → c' = 0)
   (hgr : ∀ k, k < n → (gat ts k).1.length ≤ 6 ∧ InA 2000000000000000000 (gat ts k).2) (hx : InA 2000000000000000000 (x, y)) (ha : AtN w a ts) (ha' : At w a' zs) :
   Calls Try.prog 40 #[.slice a n c, .agg #[.slice a' m c', .int .i64 x, .int .i64 y]] w fun e w' => ∃ r k d, e = .returned (.slice r k d) ∧ (putV ts zs (x, y)).length = k ∧ Formed r k d ∧ AtN w' r (putV ts zs (x, y)) ∧ Below w.heap.size w w' := by
  cases a with
  | none => exact l5Put_none a' n m c c' ts zs x y w hz hz' hn hF.1 l6 hnil hgr hx hF.2.1 ha ha'
  | some ad =>
   obtain ⟨b, off, rfl⟩ := hF.2.2 ad rfl
   exact l5Put_some b off a' n m c c' ts zs x y w hz hz' hn hF.1 l6 hnil hgr hx ha ha'

end Go.Proofs.Ytlfljfmhhnoinab
