/- Contract of impl.GroupFor. -/
import Derived.Test.YtlfljfmhhnoinaaM9
import Derived.Test.YtlfljfmhhnoinaaM12
import Derived.Test.YtlfljfmhhnoinaaM10
namespace Go.Proofs.Ytlfljfmhhnoinaa
open Go.RowKit

set_option maxRecDepth 100000 in
set_option maxHeartbeats 4000000 in
theorem implGroupFor (a a' : Option Addr) (n n' c c' : Nat) (ts : List GRow) (zs : List Int) (w : World) (hz : ts.length = n) (hn : n ≤ 1048576) (hz' : zs.length = n') (hn' : n' ≤ 1048576) (ha : AtV w a ts) (ha' : At w a' zs) :
    Calls Try.prog 17 #[.slice a n c, .agg #[.slice a' n' c']] w fun e w' => OneAns e w' w.heap.size (gfB ts zs) zs (vOf ts zs).1 (vOf ts zs).2 ∧ Below w.heap.size w w' := by
  have HA := Hid.mk ha
  have HA' := Hid.mk ha'
  clear ha ha'
  obtain ⟨W, hW⟩ : ∃ W, W = (w.alloc (.cells #[.slice a' n' c'] 33)).alloc (.cells #[.slice none 0 0, .int .i64 0, .int .i64 0] 35) := ⟨_, rfl⟩
  have B0 : Below w.heap.size w W := by rw [hW]; exact ((Below.refl _ _).alloc (Nat.le_refl _) _).alloc (by simp) _
  have zW : w.heap.size + 1 + 1 ≤ W.heap.size := by rw [hW]; simp
  have y0 : W.cell? ⟨w.heap.size, 0, none⟩ = some (.slice a' n' c') := by rw [hW]; simp [go_sem]
  have q0 : W.heap[w.heap.size + 1]? = some (.cells #[.slice none 0 0, .int .i64 0, .int .i64 0] 35 (0, 0)) := by
    rw [hW]
    have := heap_alloc_new (w.alloc (.cells #[.slice a' n' c'] 33)) (.cells #[.slice none 0 0, .int .i64 0, .int .i64 0] 35)
    rwa [World.size_alloc] at this
  have e0 : W.cell? ⟨w.heap.size + 1, 0, none⟩ = some (.slice none 0 0) := by rw [cell_of_row W _ 0 _ _ (0, 0) q0]; rfl
  have e1 : W.cell? ⟨w.heap.size + 1, 1, none⟩ = some (.int .i64 0) := by rw [cell_of_row W _ 1 _ _ (0, 0) q0]; rfl
  have e2 : W.cell? ⟨w.heap.size + 1, 2, none⟩ = some (.int .i64 0) := by rw [cell_of_row W _ 2 _ _ (0, 0) q0]; rfl
  have f0 : W.frozen? ⟨w.heap.size + 1, 0, none⟩ = false := frozen_of_row W _ 0 _ _ q0
  have f1 : W.frozen? ⟨w.heap.size + 1, 1, none⟩ = false := frozen_of_row W _ 1 _ _ q0
  have f2 : W.frozen? ⟨w.heap.size + 1, 2, none⟩ = false := frozen_of_row W _ 2 _ _ q0
  clear q0
  cases hg : goodV ts with
  | false =>
    have HG := Hid.mk hg
    clear hg
    go_enter Try.func17, Try.ntmps17
    go_wp2_with fail
    rw [← hW]
    clear hW
    refine (implGoodGroups_any _ _ _ ts _ hz hn (HA.out.below B0)).mono ?_
    rintro e w1 ⟨rfl, hb1⟩
    rw [HG.out]
    have B1 := B0.trans (hb1.mono B0.size)
    replace f0 := frozen_later hb1 e0 f0
    replace f1 := frozen_later hb1 e1 f1
    replace f2 := frozen_later hb1 e2 f2
    replace e0 := cell_later hb1 e0
    replace e1 := cell_later hb1 e1
    replace e2 := cell_later hb1 e2
    replace y0 := cell_later hb1 y0
    go_wp2
    refine bodyPost_ret (v := .tuple #[.agg #[.slice none 0 0, .int .i64 0, .int .i64 0], .bool false]) (by simp [results, Try.results17, go_sem, e0, e1, e2]) rfl ⟨OneAns.zero (gfB_good HG.out) rfl, ((B1.setCell (by simp) _).setCell (by simp) _).setCell (by simp) _⟩
  | true =>
    have HG := Hid.mk hg
    clear hg
    go_enter Try.func17, Try.ntmps17
    go_wp2_with fail
    rw [← hW]
    clear hW
    refine (implGoodGroups_any _ _ _ ts _ hz hn (HA.out.below B0)).mono ?_
    rintro e w1 ⟨rfl, hb1⟩
    rw [HG.out]
    have B1 := B0.trans (hb1.mono B0.size)
    have z1 := hb1.size
    replace f0 := frozen_later hb1 e0 f0
    replace f1 := frozen_later hb1 e1 f1
    replace f2 := frozen_later hb1 e2 f2
    replace e0 := cell_later hb1 e0
    replace e1 := cell_later hb1 e1
    replace e2 := cell_later hb1 e2
    replace y0 := cell_later hb1 y0
    clear hb1
    go_wp2_with fail
    refine (implGoodRow_any _ _ _ zs _ hz' (by omega) (HA'.out.below B1)).mono ?_
    rintro e w2 ⟨rfl, hb2⟩
    have B2 := B1.trans (hb2.mono B1.size)
    have z2 := hb2.size
    replace f0 := frozen_later hb2 e0 f0
    replace f1 := frozen_later hb2 e1 f1
    replace f2 := frozen_later hb2 e2 f2
    replace e0 := cell_later hb2 e0
    replace e1 := cell_later hb2 e1
    replace e2 := cell_later hb2 e2
    replace y0 := cell_later hb2 y0
    clear hb2
    cases hgr : good zs with
    | false =>
      have HGR := Hid.mk hgr
      clear hgr
      go_wp2
      refine bodyPost_ret (v := .tuple #[.agg #[.slice none 0 0, .int .i64 0, .int .i64 0], .bool false]) (by simp [results, Try.results17, go_sem, e0, e1, e2]) rfl ⟨OneAns.zero (gfB_row HGR.out) rfl, ((B2.setCell (by simp) _).setCell (by simp) _).setCell (by simp) _⟩
    | true =>
      have HGR := Hid.mk hgr
      have h6 := good_len hgr
      rw [hz'] at h6
      clear hgr
      go_wp2_with fail
      refine (arrayOf_any _ _ _ zs _ hz' h6 (fun k hk => good_cell HGR.out k (by omega)) (HA'.out.below B2)).mono ?_
      rintro e w3 ⟨x0, x1, x2, x3, x4, x5, rfl, hr, hb3⟩
      have HR := Hid.mk hr
      have B3 := B2.trans (hb3.mono B2.size)
      have z3 := hb3.size
      replace f0 := frozen_later hb3 e0 f0
      replace f1 := frozen_later hb3 e1 f1
      replace f2 := frozen_later hb3 e2 f2
      replace e0 := cell_later hb3 e0
      replace e1 := cell_later hb3 e1
      replace e2 := cell_later hb3 e2
      replace y0 := cell_later hb3 y0
      clear hb3 hr
      obtain ⟨V, hV⟩ : ∃ V, V = w3.alloc (.cells #[.int .i64 x0, .int .i64 x1, .int .i64 x2, .int .i64 x3, .int .i64 x4, .int .i64 x5] 72) := ⟨_, rfl⟩
      have hbV : Below w3.heap.size w3 V := by rw [hV]; exact (Below.refl _ _).alloc (Nat.le_refl _) _
      have qV : V.heap[w3.heap.size]? = some (.cells #[.int .i64 x0, .int .i64 x1, .int .i64 x2, .int .i64 x3, .int .i64 x4, .int .i64 x5] 72 (0, 0)) := by rw [hV]; exact heap_alloc_new w3 _
      have a0 : V.cell? ⟨w3.heap.size, 0, none⟩ = some (.int .i64 x0) := by rw [cell_of_row V _ 0 _ _ (0, 0) qV]; rfl
      have a1 : V.cell? ⟨w3.heap.size, 1, none⟩ = some (.int .i64 x1) := by rw [cell_of_row V _ 1 _ _ (0, 0) qV]; rfl
      have a2 : V.cell? ⟨w3.heap.size, 2, none⟩ = some (.int .i64 x2) := by rw [cell_of_row V _ 2 _ _ (0, 0) qV]; rfl
      have a3 : V.cell? ⟨w3.heap.size, 3, none⟩ = some (.int .i64 x3) := by rw [cell_of_row V _ 3 _ _ (0, 0) qV]; rfl
      have a4 : V.cell? ⟨w3.heap.size, 4, none⟩ = some (.int .i64 x4) := by rw [cell_of_row V _ 4 _ _ (0, 0) qV]; rfl
      have a5 : V.cell? ⟨w3.heap.size, 5, none⟩ = some (.int .i64 x5) := by rw [cell_of_row V _ 5 _ _ (0, 0) qV]; rfl
      have B4 := B3.trans (hbV.mono B3.size)
      have z4 := hbV.size
      replace f0 := frozen_later hbV e0 f0
      replace f1 := frozen_later hbV e1 f1
      replace f2 := frozen_later hbV e2 f2
      replace e0 := cell_later hbV e0
      replace e1 := cell_later hbV e1
      replace e2 := cell_later hbV e2
      replace y0 := cell_later hbV y0
      go_wp2
      rw [← hV]
      clear hV hbV qV
      go_loopw [22] (fun i wr => ∃ (k : Nat), k ≤ n ∧ i = .int .i64 k ∧ (∀ j, j < k → (gat ts j).1 ≠ zs) ∧ Below V.heap.size V wr) (fun i _ => n - (intOf i).toNat)
      case atStart => exact ⟨0, Nat.zero_le _, rfl, fun j hj => by omega, Below.refl _ _⟩
      case round =>
        obtain ⟨k, hk, rfl, hall, hbw⟩ := hrel
        have HALL := Hid.mk hall
        have B5 := B4.trans (hbw.mono B4.size)
        have zb := hbw.size
        clear hall
        replace f0 := frozen_later hbw e0 f0
        replace f1 := frozen_later hbw e1 f1
        replace f2 := frozen_later hbw e2 f2
        replace e0 := cell_later hbw e0
        replace e1 := cell_later hbw e1
        replace e2 := cell_later hbw e2
        replace y0 := cell_later hbw y0
        replace a0 := cell_later hbw a0
        replace a1 := cell_later hbw a1
        replace a2 := cell_later hbw a2
        replace a3 := cell_later hbw a3
        replace a4 := cell_later hbw a4
        replace a5 := cell_later hbw a5
        by_cases hlt : k < n
        · obtain ⟨b, off, rfl, hc⟩ := (HA.out.below B5).some (by omega)
          obtain ⟨q, d, hcx, hwx, hvx, hm, hat⟩ := hc k (by omega)
          have hki : (k : Int) < (n : Int) := by omega
          obtain ⟨g1, _, _, _⟩ := goodV_at HG.out k (by omega)
          have HHIT := Hid.mk (gfB_hit (zs := zs) HG.out k (by omega))
          have HNX : Hid ((gat ts k).1 ≠ zs → ∀ j, j < k + 1 → (gat ts j).1 ≠ zs) := fun h j hj => by
            by_cases e : j = k
            · rw [e]; exact h
            · exact HALL.out j (by omega)
          generalize gat ts k = Y at *
          obtain ⟨ys, x, y⟩ := Y
          simp only at hcx hwx hvx hat hm g1 HHIT HNX
          obtain ⟨m, hmm⟩ : ∃ m, ys.length = m := ⟨_, rfl⟩
          rw [hmm] at hcx hm
          have HM := Hid.mk hmm
          have HG1 := Hid.mk g1
          have hm6 : m ≤ 6 := by have := good_len g1; omega
          obtain ⟨bl, hbl⟩ : ∃ bl, decide (zs = ys) = bl := ⟨_, rfl⟩
          obtain ⟨bl', hbl'⟩ : ∃ bl, decide (ys = zs) = bl := ⟨_, rfl⟩
          have HBL := Hid.mk hbl'
          clear hc g1 hmm hbl hbl'
          obtain ⟨U, hU⟩ : ∃ U, U = wr.alloc (.cells #[.slice q m d, .int .i64 x, .int .i64 y] 35) := ⟨_, rfl⟩
          have hbU : Below wr.heap.size wr U := by rw [hU]; exact (Below.refl _ _).alloc (Nat.le_refl _) _
          have u0 : U.cell? ⟨wr.heap.size, 0, none⟩ = some (.slice q m d) := by rw [hU]; exact trip0 wr _ _ _ _
          have u1 : U.cell? ⟨wr.heap.size, 1, none⟩ = some (.int .i64 x) := by rw [hU]; exact trip1 wr _ _ _ _
          have u2 : U.cell? ⟨wr.heap.size, 2, none⟩ = some (.int .i64 y) := by rw [hU]; exact trip2 wr _ _ _ _
          have HATU := Hid.mk (hat.below hbU).drew
          have Y6 := hbw.trans (hbU.mono hbw.size)
          have zu := hbU.size
          replace f0 := frozen_later hbU e0 f0
          replace f1 := frozen_later hbU e1 f1
          replace f2 := frozen_later hbU e2 f2
          replace e0 := cell_later hbU e0
          replace e1 := cell_later hbU e1
          replace e2 := cell_later hbU e2
          replace y0 := cell_later hbU y0
          replace a0 := cell_later hbU a0
          replace a1 := cell_later hbU a1
          replace a2 := cell_later hbU a2
          replace a3 := cell_later hbU a3
          replace a4 := cell_later hbU a4
          replace a5 := cell_later hbU a5
          go_wp2_with fail
          rw [← hU]
          clear hU hcx hwx hvx hat hbU
          refine wp_region_held_drew (S := fun w' => w'.cell? ⟨w3.heap.size, 0, none⟩ = some (.int .i64 x0) ∧ w'.cell? ⟨w3.heap.size, 1, none⟩ = some (.int .i64 x1) ∧ w'.cell? ⟨w3.heap.size, 2, none⟩ = some (.int .i64 x2) ∧ w'.cell? ⟨w3.heap.size, 3, none⟩ = some (.int .i64 x3) ∧ w'.cell? ⟨w3.heap.size, 4, none⟩ = some (.int .i64 x4) ∧ w'.cell? ⟨w3.heap.size, 5, none⟩ = some (.int .i64 x5) ∧ w'.cell? ⟨wr.heap.size, 0, none⟩ = some (.slice q m d) ∧ w'.cell? ⟨wr.heap.size, 1, none⟩ = some (.int .i64 x) ∧ w'.cell? ⟨wr.heap.size, 2, none⟩ = some (.int .i64 y)) (by kernel_rfl) ?_ (fun hHeld => ?_)
          · (try dsimp only)
            exact ⟨a0, a1, a2, a3, a4, a5, u0, u1, u2⟩
          refine wpAnyH_take (i := 0) (oi := ?_) (v := ?_) ?_ (by kernel_rfl) (by kernel_rfl) (by kernel_rfl) ?_ (Or.inl ⟨?_, ?_⟩) (by assumption) ?_
          rotate_left 2
          · (simp only [List.getElem?_toArray, List.getElem?_cons_zero]; rfl)
          · exact fun _ _ _ h => h
          · rfl
          · (intro wS hSw; (try dsimp only at hSw); go_simp; (try with_reducible rfl))
          (try simp only [Act.put, List.setIfInBounds_toArray, List.set_cons_zero, List.set_cons_succ])
          refine wpAnyH_take (i := 1) (oi := ?_) (v := ?_) ?_ (by kernel_rfl) (by kernel_rfl) (by kernel_rfl) ?_ (Or.inl ⟨?_, ?_⟩) (by assumption) ?_
          rotate_left 2
          · (simp only [List.getElem?_toArray, List.getElem?_cons_zero, List.getElem?_cons_succ]; rfl)
          · exact fun _ _ _ h => h
          · rfl
          · (intro wS hSw; (try dsimp only at hSw); go_simp; (try with_reducible rfl))
          (try simp only [Act.put, List.setIfInBounds_toArray, List.set_cons_zero, List.set_cons_succ])
          refine wpAnyH_take (i := 3) (oi := ?_) (v := ?_) ?_ (by kernel_rfl) (by kernel_rfl) (by kernel_rfl) ?_ (Or.inl ⟨?_, ?_⟩) (by assumption) ?_
          rotate_left 2
          · (simp only [List.getElem?_toArray, List.getElem?_cons_zero, List.getElem?_cons_succ]; rfl)
          · exact fun _ _ _ h => h
          · rfl
          · (intro wS hSw; (try dsimp only at hSw); go_simp; (try with_reducible rfl))
          (try simp only [Act.put, List.setIfInBounds_toArray, List.set_cons_zero, List.set_cons_succ])
          refine wpAnyH_ready (rs := [2]) (by kernel_rfl) (by simp) ?_
          refine AllReadyH.cons (o := ?_) ?_ (fun K hK => ?_) AllReadyH.nil
          rotate_left
          · (simp only [List.getElem?_toArray, List.getElem?_cons_zero, List.getElem?_cons_succ]; rfl)
          go_simp
          go_at_call 47; refine (arrayOf_any _ _ _ ys _ HM.out hm6 (fun k hk => good_cell HG1.out k (by have := HM.out; omega)) HATU.out).mono ?_; rintro e w5 ⟨y0', y1', y2', y3', y4', y5', rfl, hr5, hb5⟩; have HQ := eq_good hr5 HR.out HG1.out HGR.out HBL.out; have a0' := cell_later (w := U.drew) hb5 a0; have a1' := cell_later (w := U.drew) hb5 a1; have a2' := cell_later (w := U.drew) hb5 a2; have a3' := cell_later (w := U.drew) hb5 a3; have a4' := cell_later (w := U.drew) hb5 a4; have a5' := cell_later (w := U.drew) hb5 a5; have u0' := cell_later (w := U.drew) hb5 u0; have u1' := cell_later (w := U.drew) hb5 u1; have u2' := cell_later (w := U.drew) hb5 u2
          (try go_wp2_with fail)
          refine hK.out _ _ ?_ (fun hHeld' => ?_)
          · (try dsimp only)
            exact ⟨a0', a1', a2', a3', a4', a5', u0', u1', u2'⟩
          clear hK K hHeld
          have hHeld := hHeld'
          clear hHeld'
          (try simp only [Act.put, List.setIfInBounds_toArray, List.set_cons_zero, List.set_cons_succ])
          refine wpAnyH_take (i := 4) (oi := ?_) (v := ?_) ?_ (by kernel_rfl) (by kernel_rfl) (by kernel_rfl) ?_ (Or.inl ⟨?_, ?_⟩) (by assumption) ?_
          rotate_left 2
          · (simp only [List.getElem?_toArray, List.getElem?_cons_zero, List.getElem?_cons_succ]; rfl)
          · exact fun _ _ _ h => h
          · rfl
          · (intro wS hSw; (try dsimp only at hSw); go_simp; (try with_reducible rfl))
          (try simp only [Act.put, List.setIfInBounds_toArray, List.set_cons_zero, List.set_cons_succ])
          refine wpAnyH_done (by kernel_rfl) ?_ _
          have Y7 := Y6.drew.trans (hb5.mono Y6.size)
          have B7 := B4.trans (Y7.mono B4.size)
          have z7 := hb5.size
          simp only [drew_size] at z7
          have f0' := frozen_later (w := U.drew) hb5 e0 f0
          have f1' := frozen_later (w := U.drew) hb5 e1 f1
          have f2' := frozen_later (w := U.drew) hb5 e2 f2
          have e0' := cell_later (w := U.drew) hb5 e0
          have e1' := cell_later (w := U.drew) hb5 e1
          have e2' := cell_later (w := U.drew) hb5 e2
          have yy := cell_later (w := U.drew) hb5 y0
          clear hb5 HQ hr5 hHeld HATU e0 e1 e2 f0 f1 f2 y0 a0 a1 a2 a3 a4 a5 u0 u1 u2
          cases bl' with
          | false =>
            have HNE : Hid (ys ≠ zs) := of_decide_eq_false HBL.out
            go_wp2
            go_roundw
            case rel => exact ⟨k + 1, by omega, by go_num, HNX.out HNE.out, Y7⟩
            case measure => simp [intOf]; omega
          | true =>
            have heq : ys = zs := of_decide_eq_true HBL.out
            subst heq
            obtain ⟨hb, hv⟩ := HHIT.out rfl
            have HGB := Hid.mk hb
            have HVO := Hid.mk hv
            have hmn : m = n' := HM.out.symm.trans hz'
            clear hb hv HHIT HNX HALL HBL
            subst hmn
            go_wp2_with fail
            refine wp_region_held_drew (S := fun w' => w'.cell? ⟨w3.heap.size, 0, none⟩ = some (.int .i64 x0) ∧ w'.cell? ⟨w3.heap.size, 1, none⟩ = some (.int .i64 x1) ∧ w'.cell? ⟨w3.heap.size, 2, none⟩ = some (.int .i64 x2) ∧ w'.cell? ⟨w3.heap.size, 3, none⟩ = some (.int .i64 x3) ∧ w'.cell? ⟨w3.heap.size, 4, none⟩ = some (.int .i64 x4) ∧ w'.cell? ⟨w3.heap.size, 5, none⟩ = some (.int .i64 x5) ∧ w'.cell? ⟨wr.heap.size, 0, none⟩ = some (.slice q m d) ∧ w'.cell? ⟨wr.heap.size, 1, none⟩ = some (.int .i64 x) ∧ w'.cell? ⟨wr.heap.size, 2, none⟩ = some (.int .i64 y) ∧ w'.cell? ⟨w.heap.size, 0, none⟩ = some (.slice a' m c')) (by kernel_rfl) ?_ (fun hHeld => ?_)
            · (try dsimp only)
              exact ⟨a0', a1', a2', a3', a4', a5', u0', u1', u2', yy⟩
            refine wpAnyH_take (i := 0) (oi := ?_) (v := ?_) ?_ (by kernel_rfl) (by kernel_rfl) (by kernel_rfl) ?_ (Or.inl ⟨?_, ?_⟩) (by assumption) ?_
            rotate_left 2
            · (simp only [List.getElem?_toArray, List.getElem?_cons_zero]; rfl)
            · exact fun _ _ _ h => h
            · rfl
            · (intro wS hSw; (try dsimp only at hSw); go_simp; (try with_reducible rfl))
            (try simp only [Act.put, List.setIfInBounds_toArray, List.set_cons_zero, List.set_cons_succ])
            refine wpAnyH_take (i := 1) (oi := ?_) (v := ?_) ?_ (by kernel_rfl) (by kernel_rfl) (by kernel_rfl) ?_ (Or.inl ⟨?_, ?_⟩) (by assumption) ?_
            rotate_left 2
            · (simp only [List.getElem?_toArray, List.getElem?_cons_zero, List.getElem?_cons_succ]; rfl)
            · exact fun _ _ _ h => h
            · rfl
            · (intro wS hSw; (try dsimp only at hSw); go_simp; (try with_reducible rfl))
            (try simp only [Act.put, List.setIfInBounds_toArray, List.set_cons_zero, List.set_cons_succ])
            refine wpAnyH_take (i := 2) (oi := ?_) (v := ?_) ?_ (by kernel_rfl) (by kernel_rfl) (by kernel_rfl) ?_ (Or.inl ⟨?_, ?_⟩) (by assumption) ?_
            rotate_left 2
            · (simp only [List.getElem?_toArray, List.getElem?_cons_zero, List.getElem?_cons_succ]; rfl)
            · exact fun _ _ _ h => h
            · rfl
            · (intro wS hSw; (try dsimp only at hSw); go_simp; (try with_reducible rfl))
            (try simp only [Act.put, List.setIfInBounds_toArray, List.set_cons_zero, List.set_cons_succ])
            refine wpAnyH_take (i := 3) (oi := ?_) (v := ?_) ?_ (by kernel_rfl) (by kernel_rfl) (by kernel_rfl) ?_ (Or.inl ⟨?_, ?_⟩) (by assumption) ?_
            rotate_left 2
            · (simp only [List.getElem?_toArray, List.getElem?_cons_zero, List.getElem?_cons_succ]; rfl)
            · exact fun _ _ _ h => h
            · rfl
            · (intro wS hSw; (try dsimp only at hSw); go_simp; (try with_reducible rfl))
            (try simp only [Act.put, List.setIfInBounds_toArray, List.set_cons_zero, List.set_cons_succ])
            refine wpAnyH_take (i := 4) (oi := ?_) (v := ?_) ?_ (by kernel_rfl) (by kernel_rfl) (by kernel_rfl) ?_ (Or.inl ⟨?_, ?_⟩) (by assumption) ?_
            rotate_left 2
            · (simp only [List.getElem?_toArray, List.getElem?_cons_zero, List.getElem?_cons_succ]; rfl)
            · exact fun _ _ _ h => h
            · rfl
            · (intro wS hSw; (try dsimp only at hSw); go_simp; (try with_reducible rfl))
            (try simp only [Act.put, List.setIfInBounds_toArray, List.set_cons_zero, List.set_cons_succ])
            refine wpAnyH_ready (rs := [5]) (by kernel_rfl) (by simp) ?_
            refine AllReadyH.cons (o := ?_) ?_ (fun K hK => ?_) AllReadyH.nil
            rotate_left
            · (simp only [List.getElem?_toArray, List.getElem?_cons_zero, List.getElem?_cons_succ]; rfl)
            go_simp
            go_at_call 52; refine (amountOf_any _ _ _ _ _ _).mono ?_; rintro e w6 ⟨rfl, hb6⟩; have s0 := cell_later (w := w5.drew) hb6 a0'; have s1 := cell_later (w := w5.drew) hb6 a1'; have s2 := cell_later (w := w5.drew) hb6 a2'; have s3 := cell_later (w := w5.drew) hb6 a3'; have s4 := cell_later (w := w5.drew) hb6 a4'; have s5 := cell_later (w := w5.drew) hb6 a5'; have s6 := cell_later (w := w5.drew) hb6 u0'; have s7 := cell_later (w := w5.drew) hb6 u1'; have s8 := cell_later (w := w5.drew) hb6 u2'; have s9 := cell_later (w := w5.drew) hb6 yy
            (try go_wp2_with fail)
            refine hK.out _ _ ?_ (fun hHeld' => ?_)
            · (try dsimp only)
              exact ⟨s0, s1, s2, s3, s4, s5, s6, s7, s8, s9⟩
            clear hK K hHeld
            have hHeld := hHeld'
            clear hHeld'
            (try simp only [Act.put, List.setIfInBounds_toArray, List.set_cons_zero, List.set_cons_succ])
            refine wpAnyH_ready (rs := [6]) (by kernel_rfl) (by simp) ?_
            refine AllReadyH.cons (o := ?_) ?_ (fun K hK => ?_) AllReadyH.nil
            rotate_left
            · (simp only [List.getElem?_toArray, List.getElem?_cons_zero, List.getElem?_cons_succ]; rfl)
            go_simp
            go_at_call 51; refine (groupOf_any x0 x1 x2 x3 x4 x5 ys m x y _ HM.out HG1.out HR.out).mono ?_; rintro e w7 ⟨r7, d7, rfl, ho7, hb7⟩; have t0 := cell_later hb7 s0; have t1 := cell_later hb7 s1; have t2 := cell_later hb7 s2; have t3 := cell_later hb7 s3; have t4 := cell_later hb7 s4; have t5 := cell_later hb7 s5; have t6 := cell_later hb7 s6; have t7 := cell_later hb7 s7; have t8 := cell_later hb7 s8; have t9 := cell_later hb7 s9
            (try go_wp2_with fail)
            refine hK.out _ _ ?_ (fun hHeld' => ?_)
            · (try dsimp only)
              exact ⟨t0, t1, t2, t3, t4, t5, t6, t7, t8, t9⟩
            clear hK K hHeld
            have hHeld := hHeld'
            clear hHeld'
            (try simp only [Act.put, List.setIfInBounds_toArray, List.set_cons_zero, List.set_cons_succ])
            have hb8 := (Below.refl _ w5).drew.trans (hb6.trans (hb7.mono hb6.size))
            have g0 := cell_later hb8 e0'
            have g1 := cell_later hb8 e1'
            have g2 := cell_later hb8 e2'
            have k0 := frozen_later hb8 e0' f0'
            have k1 := frozen_later hb8 e1' f1'
            have k2 := frozen_later hb8 e2' f2'
            have z8 := hb8.size
            have B8 := B7.trans (hb8.mono B7.size)
            have n1 : w3.heap.size ≠ w.heap.size + 1 := by omega
            have n2 : wr.heap.size ≠ w.heap.size + 1 := by omega
            refine wpAnyH_ready (rs := [7]) (by kernel_rfl) (by simp) ?_
            refine AllReadyH.cons (o := ?_) ?_ (fun K hK => ?_) AllReadyH.nil
            rotate_left
            · (simp only [List.getElem?_toArray, List.getElem?_cons_zero, List.getElem?_cons_succ]; rfl)
            go_simp
            skip
            (try go_wp2_with fail)
            refine hK.out _ _ ?_ (fun hHeld' => ?_)
            · (try dsimp only)
              exact ⟨(keep_far (keep_far (keep_far t0 n1) n1) n1), (keep_far (keep_far (keep_far t1 n1) n1) n1), (keep_far (keep_far (keep_far t2 n1) n1) n1), (keep_far (keep_far (keep_far t3 n1) n1) n1), (keep_far (keep_far (keep_far t4 n1) n1) n1), (keep_far (keep_far (keep_far t5 n1) n1) n1), (keep_far (keep_far (keep_far t6 n2) n2) n2), (keep_far (keep_far (keep_far t7 n2) n2) n2), (keep_far (keep_far (keep_far t8 n2) n2) n2), (keep_far (keep_far (keep_far t9 (by omega)) (by omega)) (by omega))⟩
            clear hK K hHeld
            have hHeld := hHeld'
            clear hHeld'
            (try simp only [Act.put, List.setIfInBounds_toArray, List.set_cons_zero, List.set_cons_succ])
            refine wpAnyH_take (i := 8) (oi := ?_) (v := ?_) ?_ (by kernel_rfl) (by kernel_rfl) (by kernel_rfl) ?_ (Or.inl ⟨?_, ?_⟩) (by assumption) ?_
            rotate_left 2
            · (simp only [List.getElem?_toArray, List.getElem?_cons_zero, List.getElem?_cons_succ]; rfl)
            · exact fun _ _ _ h => h
            · rfl
            · (intro wS hSw; (try dsimp only at hSw); go_simp; (try with_reducible rfl))
            (try simp only [Act.put, List.setIfInBounds_toArray, List.set_cons_zero, List.set_cons_succ])
            refine wpAnyH_done (by kernel_rfl) ?_ _
            have HO7 := Hid.mk (owns_mono ho7 (show w.heap.size + 1 + 1 ≤ w6.heap.size by have h1 := hb6.size; simp only [drew_size] at h1; omega))
            clear hHeld ho7 hb6 hb7
            go_wp2
            refine bodyPost_ret (v := .tuple #[.agg #[.slice r7 m d7, .int .i64 x, .int .i64 y], .bool true]) (by simp [results, Try.results17, go_sem, g0, g1, g2]) rfl ⟨?_, ((B8.setCell (by simp) _).setCell (by simp) _).setCell (by simp) _⟩
            show OneAns _ _ _ _ _ _ _
            rw [HGB.out, HVO.out]
            exact ⟨r7, m, d7, rfl, ownI_of (owns_mono (owns_set3 HO7.out (by omega)) (by omega))⟩
        · obtain rfl : k = n := by omega
          have HNO : Hid (gfB ts zs = false) := gfB_none (fun j hj => HALL.out j (by omega))
          clear HALL
          go_wp2
          refine bodyPost_ret (v := .tuple #[.agg #[.slice none 0 0, .int .i64 0, .int .i64 0], .bool false]) (by simp [results, Try.results17, go_sem, e0, e1, e2]) rfl ⟨OneAns.zero (HNO.out) rfl, ((B5.setCell (by simp) _).setCell (by simp) _).setCell (by simp) _⟩

end Go.Proofs.Ytlfljfmhhnoinaa
