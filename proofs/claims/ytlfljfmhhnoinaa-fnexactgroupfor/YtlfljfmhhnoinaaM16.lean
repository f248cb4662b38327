/- Contract of spec.GroupFor. -/
import Derived.Test.YtlfljfmhhnoinaaM13
import Derived.Test.YtlfljfmhhnoinaaM15
import Derived.Test.YtlfljfmhhnoinaaM6
import Derived.Test.YtlfljfmhhnoinaaM5
import Derived.Test.YtlfljfmhhnoinaaM9
namespace Go.Proofs.Ytlfljfmhhnoinaa
open Go.RowKit

set_option maxHeartbeats 1000000 in
theorem l1Compare_far (a a' : Option Addr) (n n' c c' : Nat) (xs ys : List Int) (w : World) (hz : xs.length = n) (hz' : ys.length = n') (hn : n ≤ 6) (hn' : n' ≤ 1048576) (ha : At w a xs) (ha' : At w a' ys) :
    Calls Try.prog 42 #[.agg #[.slice a n c], .agg #[.slice a' n' c']] w fun e w' => e = .returned (.int .i64 (cmp xs ys)) ∧ Below w.heap.size w w' := by
  obtain ⟨W, hW⟩ : ∃ W, W = (w.alloc (.cells #[.slice a n c] 33)).alloc (.cells #[.slice a' n' c'] 33) := ⟨_, rfl⟩
  have B : Below w.heap.size w W := by rw [hW]; exact ((Below.refl _ _).alloc (Nat.le_refl _) _).alloc (by simp) _
  have HA : At W a xs := ha.below B
  have HA' : At W a' ys := ha'.below B
  have c1 : W.cell? ⟨w.heap.size, 0, none⟩ = some (.slice a n c) := by rw [hW]; simp
  have c2 : W.cell? ⟨w.heap.size + 1, 0, none⟩ = some (.slice a' n' c') := by rw [hW]; simp
  have z2 : W.heap.size = w.heap.size + 1 + 1 := by rw [hW]; simp
  clear ha ha'
  go_enter Try.func42, Try.ntmps42
  go_wp2
  rw [← hW]
  clear hW
  go_loopw [5] (fun i wr => ∃ k : Nat, k ≤ n ∧ k ≤ n' ∧ i = .int .i64 k ∧ cmp xs ys = cmp (xs.drop k) (ys.drop k) ∧ Below W.heap.size W wr) (fun i _ => 7 - (intOf i).toNat)
  case atStart => exact ⟨0, Nat.zero_le _, Nat.zero_le _, rfl, by simp, Below.refl _ _⟩
  case round =>
    obtain ⟨k, hk, hk', rfl, hcmp, hbw⟩ := hrel
    have d1 := cell_later hbw c1
    have d2 := cell_later hbw c2
    have BW : Below w.heap.size w wr := B.trans (hbw.mono B.size)
    have HC : Hid (cmp xs ys = cmp (xs.drop k) (ys.drop k)) := hcmp
    clear hcmp
    by_cases hlt : k < n
    · by_cases hlt' : k < n'
      · obtain ⟨b, off, rfl, hb, hc⟩ := (HA.below hbw).some (by omega)
        obtain ⟨b', off', rfl, hb', hc'⟩ := (HA'.below hbw).some (by omega)
        have hcx := hc k (by omega)
        have hcy := hc' k (by omega)
        have HD : Hid (cmp xs ys = _) := HC.out.trans (cmp_drop xs ys k (by omega) (by omega))
        clear hc hc' HC HA HA' c1 c2 z2
        obtain ⟨x, hx⟩ : ∃ x, x = xs.getD k 0 := ⟨_, rfl⟩
        obtain ⟨y, hy⟩ : ∃ y, y = ys.getD k 0 := ⟨_, rfl⟩
        rw [← hx] at hcx HD
        rw [← hy] at hcy HD
        clear hx hy
        by_cases hxy : x < y
        · go_wp2
          go_quiet (fail)
          go_wp2
          go_ret
          exact ⟨ret_int (by rw [HD.out, if_pos hxy]), below_drewN BW _⟩
        · go_wp2
          go_quiet (fail)
          go_wp2
          by_cases hyx : y < x
          · go_quiet (fail)
            go_wp2
            go_ret
            exact ⟨ret_int (by rw [HD.out, if_neg (by omega), if_pos hyx]), below_drewN (below_drewN BW _) _⟩
          · go_quiet (fail)
            go_wp2
            go_roundw
            case rel => exact ⟨k + 1, by omega, by omega, by go_num, by rw [HD.out, if_neg (by omega), if_neg (by omega)], below_drewN hbw _⟩
            case measure => simp [intOf]; omega
      · have HE : Hid (cmp xs ys = _) := HC.out.trans (cmp_end xs ys k (by omega) (by omega) (by omega))
        have hg : ¬ n < n' := by omega
        have hg' : n' < n := by omega
        go_wp2
        go_ret
        exact ⟨ret_int (by rw [HE.out, if_neg (by omega), if_pos (by omega)]), BW⟩
    · have HE : Hid (cmp xs ys = _) := HC.out.trans (cmp_end xs ys k (by omega) (by omega) (by omega))
      by_cases hg : n < n'
      · go_wp2
        go_ret
        exact ⟨ret_int (by rw [HE.out, if_pos (by omega)]), BW⟩
      · have hg' : n = n' := by omega
        subst hg'
        go_wp2
        go_ret
        exact ⟨ret_int (by rw [HE.out, if_neg (by omega), if_neg (by omega)]), BW⟩

set_option maxRecDepth 100000 in
set_option maxHeartbeats 4000000 in
theorem specGroupFor (a a' : Option Addr) (n n' c c' : Nat) (ts : List GRow) (zs : List Int) (w : World) (hz : ts.length = n) (hn : n ≤ 1048576) (hz' : zs.length = n') (hn' : n' ≤ 1048576) (ha : AtN w a ts) (ha' : At w a' zs) :
    Calls Try.prog 15 #[.slice a n c, .agg #[.slice a' n' c']] w fun e w' => OneAns e w' w.heap.size (gfB ts zs) zs (vOf ts zs).1 (vOf ts zs).2 ∧ Below w.heap.size w w' := by
  have HA := Hid.mk ha
  have HA' := Hid.mk ha'
  clear ha ha'
  obtain ⟨W, hW⟩ : ∃ W, W = (w.alloc (.cells #[.slice a' n' c'] 33)).alloc (.cells #[.slice none 0 0, .int .i64 0, .int .i64 0] 35) := ⟨_, rfl⟩
  have B0 : Below w.heap.size w W := by rw [hW]; exact ((Below.refl _ _).alloc (Nat.le_refl _) _).alloc (by simp) _
  have zW : w.heap.size + 1 + 1 ≤ W.heap.size := by rw [hW]; simp
  have y0 : W.cell? ⟨w.heap.size, 0, none⟩ = some (.slice a' n' c') := by rw [hW]; simp [go_sem]
  have q0 : W.heap[w.heap.size + 1]? = some (.cells #[.slice none 0 0, .int .i64 0, .int .i64 0] 35 (0, 0)) := by
    rw [hW]
    have := heap_alloc_new (w.alloc (.cells #[.slice a' n' c'] 33)) (.cells #[.slice none 0 0, .int .i64 0, .int .i64 0] 35)
    rwa [World.size_alloc] at this
  have e0 : W.cell? ⟨w.heap.size + 1, 0, none⟩ = some (.slice none 0 0) := by rw [cell_of_row W _ 0 _ _ (0, 0) q0]; rfl
  have e1 : W.cell? ⟨w.heap.size + 1, 1, none⟩ = some (.int .i64 0) := by rw [cell_of_row W _ 1 _ _ (0, 0) q0]; rfl
  have e2 : W.cell? ⟨w.heap.size + 1, 2, none⟩ = some (.int .i64 0) := by rw [cell_of_row W _ 2 _ _ (0, 0) q0]; rfl
  have f0 : W.frozen? ⟨w.heap.size + 1, 0, none⟩ = false := frozen_of_row W _ 0 _ _ q0
  have f1 : W.frozen? ⟨w.heap.size + 1, 1, none⟩ = false := frozen_of_row W _ 1 _ _ q0
  have f2 : W.frozen? ⟨w.heap.size + 1, 2, none⟩ = false := frozen_of_row W _ 2 _ _ q0
  clear q0
  cases hg : goodV ts with
  | false =>
    have HG := Hid.mk hg
    clear hg
    go_enter Try.func15, Try.ntmps15
    go_wp2_with fail
    rw [← hW]
    clear hW
    refine (specGoodGroups_any _ _ _ ts _ hz hn (HA.out.below B0).atV).mono ?_
    rintro e w1 ⟨rfl, hb1⟩
    rw [HG.out]
    have B1 := B0.trans (hb1.mono B0.size)
    have z1 := hb1.size
    replace f0 := frozen_later hb1 e0 f0
    replace f1 := frozen_later hb1 e1 f1
    replace f2 := frozen_later hb1 e2 f2
    replace e0 := cell_later hb1 e0
    replace e1 := cell_later hb1 e1
    replace e2 := cell_later hb1 e2
    replace y0 := cell_later hb1 y0
    go_wp2
    refine bodyPost_ret (v := .tuple #[.agg #[.slice none 0 0, .int .i64 0, .int .i64 0], .bool false]) (by simp [results, Try.results15, go_sem, e0, e1, e2]) rfl ⟨OneAns.zero (gfB_good HG.out) rfl, ((B1.setCell (by simp) _).setCell (by simp) _).setCell (by simp) _⟩
  | true =>
    have HG := Hid.mk hg
    clear hg
    go_enter Try.func15, Try.ntmps15
    go_wp2_with fail
    rw [← hW]
    clear hW
    refine (specGoodGroups_any _ _ _ ts _ hz hn (HA.out.below B0).atV).mono ?_
    rintro e w1 ⟨rfl, hb1⟩
    rw [HG.out]
    have B1 := B0.trans (hb1.mono B0.size)
    have z1 := hb1.size
    replace f0 := frozen_later hb1 e0 f0
    replace f1 := frozen_later hb1 e1 f1
    replace f2 := frozen_later hb1 e2 f2
    replace e0 := cell_later hb1 e0
    replace e1 := cell_later hb1 e1
    replace e2 := cell_later hb1 e2
    replace y0 := cell_later hb1 y0
    clear hb1
    go_wp2
    go_loopw [14] (fun i wr => ∃ (k : Nat), k ≤ n ∧ i = .int .i64 k ∧ (∀ j, j < k → (gat ts j).1 ≠ zs) ∧ Below w1.heap.size w1 wr) (fun i _ => n - (intOf i).toNat)
    case atStart => exact ⟨0, Nat.zero_le _, rfl, fun j hj => by omega, Below.refl _ _⟩
    case round =>
      obtain ⟨k, hk, rfl, hall, hbw⟩ := hrel
      have HALL := Hid.mk hall
      have B5 := B1.trans (hbw.mono B1.size)
      have zb := hbw.size
      clear hall
      replace f0 := frozen_later hbw e0 f0
      replace f1 := frozen_later hbw e1 f1
      replace f2 := frozen_later hbw e2 f2
      replace e0 := cell_later hbw e0
      replace e1 := cell_later hbw e1
      replace e2 := cell_later hbw e2
      replace y0 := cell_later hbw y0
      by_cases hlt : k < n
      · obtain ⟨b, off, rfl, hc⟩ := (HA.out.below B5).some (by omega)
        obtain ⟨q, d, hcx, hwx, hvx, hm, hnil, hat⟩ := hc k (by omega)
        have hki : (k : Int) < (n : Int) := by omega
        obtain ⟨g1, _, _, _⟩ := goodV_at HG.out k (by omega)
        have HHIT := Hid.mk (gfB_hit (zs := zs) HG.out k (by omega))
        have HNX : Hid ((gat ts k).1 ≠ zs → ∀ j, j < k + 1 → (gat ts j).1 ≠ zs) := fun h j hj => by
          by_cases e : j = k
          · rw [e]; exact h
          · exact HALL.out j (by omega)
        generalize gat ts k = Y at *
        obtain ⟨ys, x, y⟩ := Y
        simp only at hcx hwx hvx hat hm g1 HHIT HNX
        obtain ⟨m, hmm⟩ : ∃ m, ys.length = m := ⟨_, rfl⟩
        rw [hmm] at hcx hm
        have HM := Hid.mk hmm
        have HNIL := Hid.mk hnil
        have hm6 : m ≤ 6 := by have := good_len g1; omega
        clear hc g1 hmm hnil
        obtain ⟨U, hU⟩ : ∃ U, U = wr.alloc (.cells #[.slice q m d, .int .i64 x, .int .i64 y] 35) := ⟨_, rfl⟩
        have hbU : Below wr.heap.size wr U := by rw [hU]; exact (Below.refl _ _).alloc (Nat.le_refl _) _
        have u0 : U.cell? ⟨wr.heap.size, 0, none⟩ = some (.slice q m d) := by rw [hU]; exact trip0 wr _ _ _ _
        have u1 : U.cell? ⟨wr.heap.size, 1, none⟩ = some (.int .i64 x) := by rw [hU]; exact trip1 wr _ _ _ _
        have u2 : U.cell? ⟨wr.heap.size, 2, none⟩ = some (.int .i64 y) := by rw [hU]; exact trip2 wr _ _ _ _
        have HATU := Hid.mk (hat.below hbU)
        have Y6 := hbw.trans (hbU.mono hbw.size)
        have B6 := B1.trans (Y6.mono B1.size)
        have zu := hbU.size
        have y0U : (wr.alloc (.cells #[.slice q m d, .int .i64 x, .int .i64 y] 35)).cell? ⟨w.heap.size, 0, none⟩ = some (.slice a' n' c') := by rw [← hU]; exact cell_later hbU y0
        replace f0 := frozen_later hbU e0 f0
        replace f1 := frozen_later hbU e1 f1
        replace f2 := frozen_later hbU e2 f2
        replace e0 := cell_later hbU e0
        replace e1 := cell_later hbU e1
        replace e2 := cell_later hbU e2
        replace y0 := cell_later hbU y0
        go_wp2_with fail
        rw [← hU]
        clear hU hcx hwx hvx hat hbU y0U
        refine (l1Compare_far _ _ _ _ _ _ ys zs _ HM.out hz' hm6 hn' HATU.out (HA'.out.below B6)).mono ?_
        rintro e w5 ⟨rfl, hb5⟩
        have Y7 := Y6.trans (hb5.mono Y6.size)
        have B7 := B1.trans (Y7.mono B1.size)
        have z7 := hb5.size
        have HAT5 := Hid.mk (HATU.out.below hb5)
        replace u0 := cell_later hb5 u0
        replace u1 := cell_later hb5 u1
        replace u2 := cell_later hb5 u2
        replace f0 := frozen_later hb5 e0 f0
        replace f1 := frozen_later hb5 e1 f1
        replace f2 := frozen_later hb5 e2 f2
        replace e0 := cell_later hb5 e0
        replace e1 := cell_later hb5 e1
        replace e2 := cell_later hb5 e2
        replace y0 := cell_later hb5 y0
        clear hb5 HATU
        by_cases heq : ys = zs
        rotate_left
        · have hne : (cmp ys zs == 0) = false := by
            have : cmp ys zs ≠ 0 := fun h => heq (cmp_eq h)
            simpa using this
          have HNE := Hid.mk heq
          clear heq
          go_wp2
          go_roundw
          case rel => exact ⟨k + 1, by omega, by go_num, HNX.out HNE.out, Y7⟩
          case measure => simp [intOf]; omega
        · subst heq
          obtain ⟨hb, hv⟩ := HHIT.out rfl
          have HGB := Hid.mk hb
          have HVO := Hid.mk hv
          have hmn : m = n' := HM.out.symm.trans hz'
          clear hb hv HHIT HNX HALL
          subst hmn
          rw [cmp_self]
          go_wp2_with fail
          refine wp_region_held_drew (S := fun w' => w'.cell? ⟨wr.heap.size, 0, none⟩ = some (.slice q m d) ∧ w'.cell? ⟨wr.heap.size, 1, none⟩ = some (.int .i64 x) ∧ w'.cell? ⟨wr.heap.size, 2, none⟩ = some (.int .i64 y)) (by kernel_rfl) ?_ (fun hHeld => ?_)
          · (try dsimp only)
            exact ⟨u0, u1, u2⟩
          refine wpAnyH_take (i := 0) (oi := ?_) (v := ?_) ?_ (by kernel_rfl) (by kernel_rfl) (by kernel_rfl) ?_ (Or.inl ⟨?_, ?_⟩) (by assumption) ?_
          rotate_left 2
          · (simp only [List.getElem?_toArray, List.getElem?_cons_zero]; rfl)
          · exact fun _ _ _ h => h
          · rfl
          · (intro wS hSw; (try dsimp only at hSw); go_simp; (try with_reducible rfl))
          (try simp only [Act.put, List.setIfInBounds_toArray, List.set_cons_zero, List.set_cons_succ])
          refine wpAnyH_take (i := 1) (oi := ?_) (v := ?_) ?_ (by kernel_rfl) (by kernel_rfl) (by kernel_rfl) ?_ (Or.inl ⟨?_, ?_⟩) (by assumption) ?_
          rotate_left 2
          · (simp only [List.getElem?_toArray, List.getElem?_cons_zero, List.getElem?_cons_succ]; rfl)
          · exact fun _ _ _ h => h
          · rfl
          · (intro wS hSw; (try dsimp only at hSw); go_simp; (try with_reducible rfl))
          (try simp only [Act.put, List.setIfInBounds_toArray, List.set_cons_zero, List.set_cons_succ])
          refine wpAnyH_take (i := 3) (oi := ?_) (v := ?_) ?_ (by kernel_rfl) (by kernel_rfl) (by kernel_rfl) ?_ (Or.inl ⟨?_, ?_⟩) (by assumption) ?_
          rotate_left 2
          · (simp only [List.getElem?_toArray, List.getElem?_cons_zero, List.getElem?_cons_succ]; rfl)
          · exact fun _ _ _ h => h
          · rfl
          · (intro wS hSw; (try dsimp only at hSw); go_simp; (try with_reducible rfl))
          (try simp only [Act.put, List.setIfInBounds_toArray, List.set_cons_zero, List.set_cons_succ])
          refine wpAnyH_take (i := 4) (oi := ?_) (v := ?_) ?_ (by kernel_rfl) (by kernel_rfl) (by kernel_rfl) ?_ (Or.inl ⟨?_, ?_⟩) (by assumption) ?_
          rotate_left 2
          · (simp only [List.getElem?_toArray, List.getElem?_cons_zero, List.getElem?_cons_succ]; rfl)
          · exact fun _ _ _ h => h
          · rfl
          · (intro wS hSw; (try dsimp only at hSw); go_simp; (try with_reducible rfl))
          (try simp only [Act.put, List.setIfInBounds_toArray, List.set_cons_zero, List.set_cons_succ])
          refine wpAnyH_take (i := 5) (oi := ?_) (v := ?_) ?_ (by kernel_rfl) (by kernel_rfl) (by kernel_rfl) ?_ (Or.inl ⟨?_, ?_⟩) (by assumption) ?_
          rotate_left 2
          · (simp only [List.getElem?_toArray, List.getElem?_cons_zero, List.getElem?_cons_succ]; rfl)
          · exact fun _ _ _ h => h
          · rfl
          · (intro wS hSw; (try dsimp only at hSw); go_simp; (try with_reducible rfl))
          (try simp only [Act.put, List.setIfInBounds_toArray, List.set_cons_zero, List.set_cons_succ])
          refine wpAnyH_take (i := 6) (oi := ?_) (v := ?_) ?_ (by kernel_rfl) (by kernel_rfl) (by kernel_rfl) ?_ (Or.inl ⟨?_, ?_⟩) (by assumption) ?_
          rotate_left 2
          · (simp only [List.getElem?_toArray, List.getElem?_cons_zero, List.getElem?_cons_succ]; rfl)
          · exact fun _ _ _ h => h
          · rfl
          · (intro wS hSw; (try dsimp only at hSw); go_simp; (try with_reducible rfl))
          (try simp only [Act.put, List.setIfInBounds_toArray, List.set_cons_zero, List.set_cons_succ])
          refine wpAnyH_ready (rs := [2]) (by kernel_rfl) (by simp) ?_
          refine AllReadyH.cons (o := ?_) ?_ (fun K hK => ?_) AllReadyH.nil
          rotate_left
          · (simp only [List.getElem?_toArray, List.getElem?_cons_zero, List.getElem?_cons_succ]; rfl)
          go_simp
          go_at_call 49; refine (l2OwnRow_any _ _ _ ys _ HM.out (by omega) HNIL.out HAT5.out.drew).mono ?_; rintro e w7 ⟨r7, d7, rfl, ho7, hb7⟩; have t0 := cell_later (w := w5.drew) hb7 u0; have t1 := cell_later (w := w5.drew) hb7 u1; have t2 := cell_later (w := w5.drew) hb7 u2
          (try go_wp2_with fail)
          refine hK.out _ _ ?_ (fun hHeld' => ?_)
          · (try dsimp only)
            exact ⟨t0, t1, t2⟩
          clear hK K hHeld
          have hHeld := hHeld'
          clear hHeld'
          (try simp only [Act.put, List.setIfInBounds_toArray, List.set_cons_zero, List.set_cons_succ])
          refine wpAnyH_take (i := 7) (oi := ?_) (v := ?_) ?_ (by kernel_rfl) (by kernel_rfl) (by kernel_rfl) ?_ (Or.inl ⟨?_, ?_⟩) (by assumption) ?_
          rotate_left 2
          · (simp only [List.getElem?_toArray, List.getElem?_cons_zero, List.getElem?_cons_succ]; rfl)
          · exact fun _ _ _ h => h
          · rfl
          · (intro wS hSw; (try dsimp only at hSw); go_simp; (try with_reducible rfl))
          (try simp only [Act.put, List.setIfInBounds_toArray, List.set_cons_zero, List.set_cons_succ])
          have hb8 := (Below.refl _ w5).drew.trans hb7
          have g0 := cell_later hb8 e0
          have g1 := cell_later hb8 e1
          have g2 := cell_later hb8 e2
          have k0 := frozen_later hb8 e0 f0
          have k1 := frozen_later hb8 e1 f1
          have k2 := frozen_later hb8 e2 f2
          have z8 := hb8.size
          have B8 := B7.trans (hb8.mono B7.size)
          have n2 : wr.heap.size ≠ w.heap.size + 1 := by omega
          refine wpAnyH_ready (rs := [8]) (by kernel_rfl) (by simp) ?_
          refine AllReadyH.cons (o := ?_) ?_ (fun K hK => ?_) AllReadyH.nil
          rotate_left
          · (simp only [List.getElem?_toArray, List.getElem?_cons_zero, List.getElem?_cons_succ]; rfl)
          go_simp
          skip
          (try go_wp2_with fail)
          refine hK.out _ _ ?_ (fun hHeld' => ?_)
          · (try dsimp only)
            exact ⟨keep_far (keep_far (keep_far t0 n2) n2) n2, keep_far (keep_far (keep_far t1 n2) n2) n2, keep_far (keep_far (keep_far t2 n2) n2) n2⟩
          clear hK K hHeld
          have hHeld := hHeld'
          clear hHeld'
          (try simp only [Act.put, List.setIfInBounds_toArray, List.set_cons_zero, List.set_cons_succ])
          refine wpAnyH_take (i := 9) (oi := ?_) (v := ?_) ?_ (by kernel_rfl) (by kernel_rfl) (by kernel_rfl) ?_ (Or.inl ⟨?_, ?_⟩) (by assumption) ?_
          rotate_left 2
          · (simp only [List.getElem?_toArray, List.getElem?_cons_zero, List.getElem?_cons_succ]; rfl)
          · exact fun _ _ _ h => h
          · rfl
          · (intro wS hSw; (try dsimp only at hSw); go_simp; (try with_reducible rfl))
          (try simp only [Act.put, List.setIfInBounds_toArray, List.set_cons_zero, List.set_cons_succ])
          refine wpAnyH_done (by kernel_rfl) ?_ _
          have HO7 := Hid.mk (owns_mono ho7 (show w.heap.size + 1 + 1 ≤ w5.drew.heap.size by simp only [drew_size]; omega))
          clear hHeld ho7 hb7
          go_wp2
          refine bodyPost_ret (v := .tuple #[.agg #[.slice r7 m d7, .int .i64 x, .int .i64 y], .bool true]) (by simp [results, Try.results15, go_sem, g0, g1, g2]) rfl ⟨?_, ((B8.setCell (by simp) _).setCell (by simp) _).setCell (by simp) _⟩
          show OneAns _ _ _ _ _ _ _
          rw [HGB.out, HVO.out]
          exact ⟨r7, m, d7, rfl, ownI_of (owns_mono (owns_set3 HO7.out (by omega)) (by omega))⟩
      · obtain rfl : k = n := by omega
        have HNO : Hid (gfB ts zs = false) := gfB_none (fun j hj => HALL.out j (by omega))
        clear HALL
        go_wp2
        refine bodyPost_ret (v := .tuple #[.agg #[.slice none 0 0, .int .i64 0, .int .i64 0], .bool false]) (by simp [results, Try.results15, go_sem, e0, e1, e2]) rfl ⟨OneAns.zero (HNO.out) rfl, ((B5.setCell (by simp) _).setCell (by simp) _).setCell (by simp) _⟩

end Go.Proofs.Ytlfljfmhhnoinaa
