/- Several texts of one proof, in build order: LcI, L1In, SrI, FlD. -/
import Derived.Test.YtjjebodlekepaaaDoorM6
import Derived.Deep.CutBlock
import Derived.Test.YtjjebodlekepaaaDoorM0
import Derived.Test.YtjjebodlekepaaaDoorRows
import Derived.Test.YtjjebodlekepaaaDoorM4

/- Contracts of impl.mayGo, impl.compareLocks. -/
namespace Go.Proofs.YtjjebodlekepaaaDoor
open Go.RowKit

set_option maxRecDepth 100000 in
set_option maxHeartbeats 2000000 in
theorem mayGo_any (a : Option Addr) (n c : Nat) (xs : List TStep) (x0 x1 x2 : Int) (w : World) (hz : xs.length = n) (hn : n ≤ 9223372036854775807) (hg : ∀ y ∈ xs, stOk y = true) (hx : x1 = 1 ∨ x1 = 2) (ha : At w a (flStep xs)) :
    Calls Tryd.prog 52 #[.slice a n c, .agg #[.int .i64 x0, .int .i64 x1, .int .i64 x2]] w fun e w' => e = .returned (mgV (byF xs (x0, x1, x2))) ∧ Below w.heap.size w w' := by
  obtain ⟨W, hW⟩ : ∃ W, W = w.alloc (.cells #[.int .i64 x0, .int .i64 x1, .int .i64 x2] 51) := ⟨_, rfl⟩
  have B0 : Below w.heap.size w W := by rw [hW]; exact (Below.refl _ _).alloc (Nat.le_refl _) _
  have q0 : W.cell? ⟨w.heap.size, 0, none⟩ = some (.int .i64 x0) := by rw [hW]; simp
  have q1 : W.cell? ⟨w.heap.size, 1, none⟩ = some (.int .i64 x1) := by rw [hW]; simp
  have q2 : W.cell? ⟨w.heap.size, 2, none⟩ = some (.int .i64 x2) := by rw [hW]; simp
  have HZ := Hid.mk hz
  have HA := Hid.mk (At.below ha B0)
  have HG := Hid.mk hg
  have HX := Hid.mk hx
  have HB0 := Hid.mk B0
  clear hz ha hg hx B0
  go_enter Tryd.func52, Tryd.ntmps52
  go_upto_region 1 with fail
  rw [← hW]
  clear hW
  go_wp2
  go_loopw [5, 10] (fun p i wr => ∃ (k : Nat), k ≤ n ∧ i = .int .i64 k ∧ p = .int .u64 (byF (xs.take k) (x0, x1, x2) : Nat) ∧ Below W.heap.size W wr) (fun _ i _ => n - (intOf i).toNat)
  case atStart => exact ⟨0, Nat.zero_le _, rfl, rfl, Below.refl _ _⟩
  case round =>
    obtain ⟨k, hk, rfl, rfl, hbw⟩ := hrel
    obtain ⟨wY, rfl⟩ : ∃ x, x = wr := ⟨_, rfl⟩
    by_cases hlt : k < n
    · obtain ⟨⟨y0, y1, y2⟩, hy⟩ : ∃ x, xs[k]? = some x := ⟨_, List.getElem?_eq_getElem (by have := HZ.out; omega)⟩
      obtain ⟨b, off, rfl, hb, hc⟩ := flStep_some HA.out (by have := HZ.out; omega)
      obtain ⟨c0, c1, c2⟩ := hc k _ hy
      have c0 := (hbw.cell hb).trans c0
      have c1 := (hbw.cell hb).trans c1
      have c2 := (hbw.cell hb).trans c2
      have z0 := cell_later hbw q0
      have z1 := cell_later hbw q1
      have z2 := cell_later hbw q2
      have hgy := stOk_iff.1 (HG.out _ (List.mem_of_getElem? hy))
      simp only at c0 c1 c2 hgy
      have hy0 : 0 ≤ y0 := hgy.1
      have hy6 : y0 < 6 := hgy.2.1
      have hy1 : y1 = 1 ∨ y1 = 2 := by omega
      have hki : (k : Int) < (n : Int) := by omega
      have htk := byF_take (x := (x0, x1, x2)) hy
      obtain ⟨S, hS⟩ : ∃ S, byF (xs.take k) (x0, x1, x2) = S := ⟨_, rfl⟩
      have hS6 : S < 64 := by rw [← hS]; exact byF_lt fun y hy => (stOk_iff.1 (HG.out y (List.mem_of_mem_take hy))).2.1
      rw [hS] at htk ⊢
      have HTK := Hid.mk htk
      obtain ⟨V, hV⟩ : ∃ V, V = wY.alloc (.cells #[.int .i64 y0, .int .i64 y1, .int .i64 y2] 51) := ⟨_, rfl⟩
      have hbV : Below wY.heap.size wY V := by rw [hV]; exact (Below.refl _ _).alloc (Nat.le_refl _) _
      have v0 : V.cell? ⟨wY.heap.size, 0, none⟩ = some (.int .i64 y0) := by rw [hV]; simp
      have v1 : V.cell? ⟨wY.heap.size, 1, none⟩ = some (.int .i64 y1) := by rw [hV]; simp
      have v2 : V.cell? ⟨wY.heap.size, 2, none⟩ = some (.int .i64 y2) := by rw [hV]; simp
      have z0 := cell_later hbV z0
      have z1 := cell_later hbV z1
      have z2 := cell_later hbV z2
      have HB := Hid.mk (hbw.trans (hbV.mono hbw.size))
      have KC := Hid.mk (clash_any y0 y1 y2 x0 x1 x2 V hy1 HX.out)
      clear hc hy hbw hbV hgy htk hS
      go_upto_region 5 with fail
      rw [← hV]
      clear hV c0 c1 c2
      go_wp2_with fail
      refine KC.out.mono ?_
      rintro e w3 ⟨rfl, hb3⟩
      have v0 := cell_later hb3 v0
      have HB3 := Hid.mk (HB.out.trans (hb3.mono HB.out.size))
      clear hb3 KC v1 v2 z0 z1 z2 HB
      cases hcl : clB (y0, y1, y2) (x0, x1, x2) with
      | false =>
        have HN : Hid (byF (xs.take (k + 1)) (x0, x1, x2) = S) := Hid.mk (by rw [HTK.out, hcl]; rfl)
        go_wp2
        go_roundw
        case rel => exact ⟨k + 1, by omega, by go_num, by rw [HN.out], HB3.out⟩
        case measure => simp [intOf]; omega
      | true =>
        have HN : Hid (byF (xs.take (k + 1)) (x0, x1, x2) = S ||| 2 ^ y0.toNat) := Hid.mk (by rw [HTK.out, hcl]; rfl)
        go_wp2
        go_roundw
        case rel => exact ⟨k + 1, by omega, by go_num, by rw [HN.out, or_pow hS6 hy0 hy6], HB3.out⟩
        case measure => simp [intOf]; omega
    · obtain rfl : k = n := by omega
      have hki : ¬ (k : Int) < (k : Int) := by omega
      rw [List.take_of_length_le (by have := HZ.out; omega)]
      have HBW := Hid.mk (HB0.out.trans (hbw.mono HB0.out.size))
      clear hbw HB0
      obtain ⟨S, hS⟩ : ∃ S, byF xs (x0, x1, x2) = S := ⟨_, rfl⟩
      have HS : Hid (mgV (byF xs (x0, x1, x2)) = mgV S) := Hid.mk (by rw [hS])
      rw [hS]
      by_cases h0 : S = 0
      · subst h0
        clear hS
        go_wp2
        go_ret
        exact ⟨by rw [HS.out]; rfl, HBW.out⟩
      · have hb : ((S : Int) == 0) = false := beq_eq_false_iff_ne.2 (by omega)
        have HS2 : Hid (mgV S = .iface 87 (.agg #[.int .u64 (S : Nat)])) := Hid.mk (if_neg h0)
        clear hS
        go_wp2
        go_ret
        exact ⟨by rw [HS.out, HS2.out]; rfl, HBW.out⟩

set_option maxRecDepth 100000 in
set_option maxHeartbeats 2000000 in
theorem compareLocks_any (x0 x1 x2 y0 y1 y2 : Int) (w : World) :
    Calls Tryd.prog 51 #[.agg #[.int .i64 x0, .int .i64 x1, .int .i64 x2], .agg #[.int .i64 y0, .int .i64 y1, .int .i64 y2]] w fun e w' => e = .returned (.int .i64 (cmpS (x0, x1, x2) (y0, y1, y2))) ∧ Below w.heap.size w w' := by
  obtain ⟨W, hW⟩ : ∃ W, W = (w.alloc (.cells #[.int .i64 x0, .int .i64 x1, .int .i64 x2] 51)).alloc (.cells #[.int .i64 y0, .int .i64 y1, .int .i64 y2] 51) := ⟨_, rfl⟩
  have B0 : Below w.heap.size w W := by rw [hW]; exact ((Below.refl _ _).alloc (Nat.le_refl _) _).alloc (by simp) _
  have q0 : W.cell? ⟨w.heap.size, 0, none⟩ = some (.int .i64 x0) := by rw [hW]; simp
  have q2 : W.cell? ⟨w.heap.size, 2, none⟩ = some (.int .i64 x2) := by rw [hW]; simp
  have r0 : W.cell? ⟨w.heap.size + 1, 0, none⟩ = some (.int .i64 y0) := by rw [hW]; simp
  have r2 : W.cell? ⟨w.heap.size + 1, 2, none⟩ = some (.int .i64 y2) := by rw [hW]; simp
  go_enter Tryd.func51, Tryd.ntmps51
  go_upto_region 1 with fail
  rw [← hW]
  clear hW
  refine wp_region_held_drew (S := fun w' => w'.cell? ⟨w.heap.size, 0, none⟩ = some (.int .i64 x0) ∧ w'.cell? ⟨w.heap.size, 2, none⟩ = some (.int .i64 x2) ∧ w'.cell? ⟨w.heap.size + 1, 0, none⟩ = some (.int .i64 y0) ∧ w'.cell? ⟨w.heap.size + 1, 2, none⟩ = some (.int .i64 y2)) (by kernel_rfl) ?_ (fun hHeld => ?_)
  · (try dsimp only)
    exact ⟨q0, q2, r0, r2⟩
  refine tk 0 ?_
  refine tk 1 ?_
  refine tk 2 ?_
  refine tk 3 ?_
  refine tk 5 ?_
  refine tk 6 ?_
  refine tk 7 ?_
  refine tk 8 ?_
  refine tr 4 (fun K hK => ?_)
  go_simp
  go_at_call 66
  refine (cmpI_any x0 y0 _).mono ?_
  rintro e w1 ⟨rfl, hw1⟩
  obtain rfl := hw1.symm
  (try go_wp2_with fail)
  refine hK.out _ _ ?_ (fun hHeld' => ?_)
  · (try dsimp only)
    exact ⟨q0, q2, r0, r2⟩
  clear hK K hHeld
  have hHeld := hHeld'
  clear hHeld'
  (try simp only [Act.put, List.setIfInBounds_toArray, List.set_cons_zero, List.set_cons_succ])
  refine tr 9 (fun K hK => ?_)
  go_simp
  go_at_call 66
  refine (cmpI_any x2 y2 _).mono ?_
  rintro e w2 ⟨rfl, hw2⟩
  obtain rfl := hw2.symm
  (try go_wp2_with fail)
  refine hK.out _ _ ?_ (fun hHeld' => ?_)
  · (try dsimp only)
    exact ⟨q0, q2, r0, r2⟩
  clear hK K hHeld
  have hHeld := hHeld'
  clear hHeld'
  (try simp only [Act.put, List.setIfInBounds_toArray, List.set_cons_zero, List.set_cons_succ])
  refine wpAnyH_ready (rs := [10]) (by kernel_rfl) (by simp) ?_
  refine AllReadyH.cons (o := ?_) ?_ (fun K hK => ?_) AllReadyH.nil
  rotate_left
  · (simp only [List.getElem?_toArray, List.getElem?_cons_zero, List.getElem?_cons_succ]; rfl)
  go_simp
  skip
  (try go_wp2_with fail)
  refine hK.out _ _ ?_ (fun hHeld' => ?_)
  · (try dsimp only)
    exact ⟨cell_later (((Below.refl _ _).alloc (Nat.le_refl _) _).drew) q0, cell_later (((Below.refl _ _).alloc (Nat.le_refl _) _).drew) q2, cell_later (((Below.refl _ _).alloc (Nat.le_refl _) _).drew) r0, cell_later (((Below.refl _ _).alloc (Nat.le_refl _) _).drew) r2⟩
  clear hK K hHeld
  have hHeld := hHeld'
  clear hHeld'
  (try simp only [Act.put, List.setIfInBounds_toArray, List.set_cons_zero, List.set_cons_succ])
  obtain ⟨X, hX⟩ : ∃ X, X = (W.alloc (.cells #[.int .i64 (sgnI x0 y0), .int .i64 (sgnI x2 y2)] 3)).drew := ⟨_, rfl⟩
  have n0 : X.cell? ⟨W.heap.size, 0, none⟩ = some (.int .i64 (sgnI x0 y0)) := by rw [hX]; exact news_at W _ _ 0 _ rfl
  have n1 : X.cell? ⟨W.heap.size, 1, none⟩ = some (.int .i64 (sgnI x2 y2)) := by rw [hX]; exact news_at W _ _ 1 _ rfl
  have bX : Below W.heap.size W X := by rw [hX]; exact ((Below.refl _ _).alloc (Nat.le_refl _) _).drew
  have q0 := cell_later bX q0
  have q2 := cell_later bX q2
  have r0 := cell_later bX r0
  have r2 := cell_later bX r2
  have HBX := Hid.mk (B0.trans (bX.mono B0.size))
  have KO := Hid.mk (or2_any W.heap.size _ _ X n0 n1)
  obtain ⟨L, hL⟩ : ∃ L, (if sgnI x0 y0 = 0 then sgnI x2 y2 else sgnI x0 y0) = L := ⟨_, rfl⟩
  have HL : Hid (cmpS (x0, x1, x2) (y0, y1, y2) = L) := Hid.mk hL
  rw [hL] at KO
  rw [← hX]
  clear hX bX hL
  refine tr 11 (fun K hK => ?_)
  go_simp
  go_at_call 65
  refine KO.out.mono ?_
  rintro e w3 ⟨rfl, hw3⟩
  obtain rfl := hw3.symm
  (try go_wp2_with fail)
  refine hK.out _ _ ?_ (fun hHeld' => ?_)
  · (try dsimp only)
    exact ⟨q0, q2, r0, r2⟩
  clear hK K hHeld
  have hHeld := hHeld'
  clear hHeld'
  (try simp only [Act.put, List.setIfInBounds_toArray, List.set_cons_zero, List.set_cons_succ])
  refine tk 12 ?_
  refine wpAnyH_done (by kernel_rfl) ?_ _
  go_wp2
  go_ret
  exact ⟨ret_int HL.out.symm, HBX.out⟩

end Go.Proofs.YtjjebodlekepaaaDoor

/- Contract of spec.l1In. -/
namespace Go.Proofs.YtjjebodlekepaaaDoor
open Go.RowKit

theorem l1In_any (x lo hi : Int) (w : World) :
    Calls Tryd.prog 49 #[.int .i64 x, .int .i64 lo, .int .i64 hi] w fun e w' => e = .returned (.bool (decide (lo ≤ x) && decide (x ≤ hi))) ∧ w' = w := by
  by_cases h : lo ≤ x
  · have h1 : decide (lo ≤ x) = true := decide_eq_true h
    go_enter Tryd.func49, Tryd.ntmps49
    go_wp2
    go_ret
    exact ⟨ret_bool (by simp [h]), rfl⟩
  · have h1 : decide (lo ≤ x) = false := decide_eq_false h
    go_enter Tryd.func49, Tryd.ntmps49
    go_wp2
    go_ret
    exact ⟨ret_bool (by simp), rfl⟩

end Go.Proofs.YtjjebodlekepaaaDoor

/- Contracts of GoodSteps, the program's and the model's. -/
namespace Go.Proofs.YtjjebodlekepaaaDoor
open Go.RowKit

theorem isNoTxn_any (x : Int) (w : World) :
    Calls Tryd.prog 58 #[.int .i64 x] w fun e w' => e = .returned (.bool (!(decide (0 ≤ x) && decide (x < 6)))) ∧ w' = w := by
  by_cases h0 : x < 0
  · have HN : Hid ((decide (0 ≤ x) && decide (x < 6)) = false) := Hid.mk (by rw [decide_eq_false (by omega)]; rfl)
    go_enter Tryd.func58, Tryd.ntmps58
    go_wp2
    go_ret
    exact ⟨ret_bool (by first | (rw [HN.out]; rfl) | rfl | (simp; omega)), rfl⟩
  by_cases h6 : 6 ≤ x
  · have HN : Hid ((decide (0 ≤ x) && decide (x < 6)) = false) := Hid.mk (by rw [decide_eq_false (show ¬ x < 6 by omega), Bool.and_false])
    go_enter Tryd.func58, Tryd.ntmps58
    go_wp2
    go_ret
    exact ⟨ret_bool (by first | (rw [HN.out]; rfl) | rfl | (simp; omega)), rfl⟩
  · have HN : Hid ((decide (0 ≤ x) && decide (x < 6)) = true) := Hid.mk (by rw [decide_eq_true (show 0 ≤ x by omega), decide_eq_true (show x < 6 by omega)]; rfl)
    go_enter Tryd.func58, Tryd.ntmps58
    go_wp2
    go_ret
    exact ⟨ret_bool (by first | (rw [HN.out]; rfl) | rfl | (simp; omega)), rfl⟩

set_option maxRecDepth 100000 in
set_option maxHeartbeats 1000000 in
theorem isNoStep_any (x0 x1 x2 : Int) (w : World) :
    Calls Tryd.prog 54 #[.agg #[.int .i64 x0, .int .i64 x1, .int .i64 x2]] w fun e w' => e = .returned (.bool (!stOk (x0, x1, x2))) ∧ Below w.heap.size w w' := by
  have K := Hid.mk (fun w => isNoTxn_any x0 w)
  by_cases ht : 0 ≤ x0 ∧ x0 < 6
  · rw [decide_eq_true ht.1, decide_eq_true ht.2] at K
    by_cases q1 : x1 = 1
    · subst q1
      go_enter Tryd.func54, Tryd.ntmps54
      go_wp2_with (go_at_call 58; refine (K.out _).mono ?_; rintro e w2 ⟨rfl, hw⟩; obtain rfl := hw.symm)
      all_goals
        go_ret
        refine ⟨ret_bool ?_, (Below.refl _ _).alloc (Nat.le_refl _) _⟩
        first
          | (rw [stOk_no (by simp only; omega)]; simp <;> omega)
          | (rw [stOk_iff.2 (by simp only; omega)]; simp <;> omega)
    · by_cases q2 : x1 = 2
      · subst q2
        go_enter Tryd.func54, Tryd.ntmps54
        go_wp2_with (go_at_call 58; refine (K.out _).mono ?_; rintro e w2 ⟨rfl, hw⟩; obtain rfl := hw.symm)
        all_goals
          go_ret
          refine ⟨ret_bool ?_, (Below.refl _ _).alloc (Nat.le_refl _) _⟩
          first
            | (rw [stOk_no (by simp only; omega)]; simp <;> omega)
            | (rw [stOk_iff.2 (by simp only; omega)]; simp <;> omega)
      · have HN : Hid (stOk (x0, x1, x2) = false) := Hid.mk (stOk_no (by simp only; omega))
        have q1' : (x1 == 1) = false := beq_eq_false_iff_ne.2 q1
        have q2' : (x1 == 2) = false := beq_eq_false_iff_ne.2 q2
        go_enter Tryd.func54, Tryd.ntmps54
        go_wp2_with (go_at_call 58; refine (K.out _).mono ?_; rintro e w2 ⟨rfl, hw⟩; obtain rfl := hw.symm)
        all_goals
          go_ret
          refine ⟨ret_bool ?_, (Below.refl _ _).alloc (Nat.le_refl _) _⟩
          rw [HN.out]
          simp <;> omega
  · rw [show (!(decide (0 ≤ x0) && decide (x0 < 6))) = true by simp; omega] at K
    have HN : Hid (stOk (x0, x1, x2) = false) := Hid.mk (stOk_no (by simp only; omega))
    go_enter Tryd.func54, Tryd.ntmps54
    go_wp2_with (go_at_call 58; refine (K.out _).mono ?_; rintro e w2 ⟨rfl, hw⟩; obtain rfl := hw.symm)
    go_ret
    refine ⟨ret_bool ?_, (Below.refl _ _).alloc (Nat.le_refl _) _⟩
    rw [HN.out]; rfl

set_option maxRecDepth 100000 in
set_option maxHeartbeats 2000000 in
theorem indexNoStep_any (a : Option Addr) (n c : Nat) (xs : List TStep) (w : World) (hz : xs.length = n) (hn : n ≤ 9223372036854775807) (ha : At w a (flStep xs)) :
    Calls Tryd.prog 68 #[.slice a n c, .func (.func 54) #[] #[]] w fun e w' => (∃ k : Int, e = .returned (.int .i64 k) ∧ decide (0 ≤ k) = !xs.all stOk) ∧ Below w.heap.size w w' := by
  have HZ := Hid.mk hz
  have HA := Hid.mk ha
  clear hz ha
  go_enter Tryd.func68, Tryd.ntmps68
  go_wp2_with fail
  go_loopw [8] (fun i wr => ∃ (k : Nat), k ≤ n ∧ i = .int .i64 k ∧ xs.all stOk = (xs.drop k).all stOk ∧ Below w.heap.size w wr) (fun i _ => n - (intOf i).toNat)
  case atStart => exact ⟨0, Nat.zero_le _, rfl, rfl, Below.refl _ _⟩
  case round =>
    obtain ⟨k, hk, rfl, ht, hbw⟩ := hrel
    obtain ⟨wY, rfl⟩ : ∃ x, x = wr := ⟨_, rfl⟩
    by_cases hlt : k < n
    · obtain ⟨⟨x0, x1, x2⟩, hx⟩ : ∃ x, xs[k]? = some x := ⟨_, List.getElem?_eq_getElem (by have := HZ.out; omega)⟩
      obtain ⟨b, off, rfl, hb, hc⟩ := flStep_some HA.out (by have := HZ.out; omega)
      obtain ⟨c0, c1, c2⟩ := hc k _ hx
      have c0 := (hbw.cell hb).trans c0
      have c1 := (hbw.cell hb).trans c1
      have c2 := (hbw.cell hb).trans c2
      rw [all_step hx] at ht
      have HT := Hid.mk ht
      have HBW := Hid.mk hbw
      have hki : (k : Int) < (n : Int) := by omega
      have K := Hid.mk (isNoStep_any x0 x1 x2 wY)
      clear hc hx ht hbw
      simp only at c0 c1 c2
      cases hr : stOk (x0, x1, x2) with
      | false =>
        rw [hr] at K
        go_wp2_with fail
        refine K.out.mono ?_
        rintro e w3 ⟨rfl, hb3⟩
        have HB3 := Hid.mk (HBW.out.trans (hb3.mono HBW.out.size))
        clear hb3 K
        go_wp2
        go_ret
        exact ⟨⟨k, rfl, by rw [HT.out, hr]; simp⟩, HB3.out⟩
      | true =>
        rw [hr] at K
        go_wp2_with fail
        refine K.out.mono ?_
        rintro e w3 ⟨rfl, hb3⟩
        have HB3 := Hid.mk (HBW.out.trans (hb3.mono HBW.out.size))
        clear hb3 K
        go_wp2
        go_roundw
        case rel => exact ⟨k + 1, by omega, by go_num, by rw [HT.out, hr]; rfl, HB3.out⟩
        case measure => simp [intOf]; omega
    · rw [all_done (by have := HZ.out; omega)] at ht
      have HT := Hid.mk ht
      clear ht
      go_wp2
      go_ret
      exact ⟨⟨-1, rfl, by rw [HT.out]; rfl⟩, hbw⟩

set_option maxRecDepth 100000 in
set_option maxHeartbeats 2000000 in
theorem hasNoStep_any (a : Option Addr) (n c : Nat) (xs : List TStep) (w : World) (hz : xs.length = n) (hn : n ≤ 9223372036854775807) (ha : At w a (flStep xs)) :
    Calls Tryd.prog 53 #[.slice a n c, .func (.func 54) #[] #[]] w fun e w' => e = .returned (.bool (!xs.all stOk)) ∧ Below w.heap.size w w' := by
  have K := Hid.mk (indexNoStep_any a n c xs w hz hn ha)
  clear ha hz
  go_enter Tryd.func53, Tryd.ntmps53
  go_wp2_with fail
  refine K.out.mono ?_
  rintro e w2 ⟨⟨k, rfl, hk⟩, hb⟩
  have HK := Hid.mk hk
  clear K hk
  go_wp2
  go_ret
  exact ⟨ret_bool HK.out, hb⟩

set_option maxRecDepth 100000 in
set_option maxHeartbeats 2000000 in
theorem implGoodSteps (a : Option Addr) (n c : Nat) (xs : List TStep) (w : World) (hz : xs.length = n) (hn : n ≤ 9223372036854775807) (ha : At w a (flStep xs)) :
    Calls Tryd.prog 34 #[.slice a n c] w fun e w' => e = .returned (.bool (gpB xs)) ∧ Below w.heap.size w w' := by
  by_cases h40 : 40 < n
  · have h40' : ¬ (n : Int) ≤ 40 := by omega
    have HG : Hid (gpB xs = false) := by show _ = _; unfold gpB; rw [decide_eq_false (by omega)]; rfl
    clear hz ha
    go_enter Tryd.func34, Tryd.ntmps34
    go_wp2
    go_ret
    exact ⟨ret_bool HG.out.symm, Below.refl _ _⟩
  · have h40' : (n : Int) ≤ 40 := by omega
    have HG : Hid (gpB xs = xs.all stOk) := by show _ = _; unfold gpB; rw [decide_eq_true (by omega)]; rfl
    have K := Hid.mk (hasNoStep_any a n c xs w hz hn ha)
    clear hz ha
    go_enter Tryd.func34, Tryd.ntmps34
    go_wp2_with fail
    refine K.out.mono ?_
    rintro e w2 ⟨rfl, hb⟩
    clear K
    go_wp2
    go_ret
    exact ⟨ret_bool (by rw [HG.out]), hb⟩

set_option maxRecDepth 100000 in
set_option maxHeartbeats 4000000 in
theorem specGoodSteps (a : Option Addr) (n c : Nat) (xs : List TStep) (w : World) (hz : xs.length = n) (hn : n ≤ 9223372036854775807) (ha : At w a (flStep xs)) :
    Calls Tryd.prog 27 #[.slice a n c] w fun e w' => e = .returned (.bool (gpB xs)) ∧ Below w.heap.size w w' := by
  have HZ := Hid.mk hz
  have HA := Hid.mk ha
  clear hz ha
  go_enter Tryd.func27, Tryd.ntmps27
  go_wp2_with fail
  go_loopw [7] (fun i wr => ∃ (k : Nat), k ≤ n ∧ i = .int .i64 k ∧ xs.all stOk = (xs.drop k).all stOk ∧ Below w.heap.size w wr) (fun i _ => n - (intOf i).toNat)
  case atStart => exact ⟨0, Nat.zero_le _, rfl, rfl, Below.refl _ _⟩
  case round =>
    obtain ⟨k, hk, rfl, ht, hbw⟩ := hrel
    obtain ⟨wY, rfl⟩ : ∃ x, x = wr := ⟨_, rfl⟩
    by_cases hlt : k < n
    · obtain ⟨⟨x0, x1, x2⟩, hx⟩ : ∃ x, xs[k]? = some x := ⟨_, List.getElem?_eq_getElem (by have := HZ.out; omega)⟩
      obtain ⟨b, off, rfl, hb, hc⟩ := flStep_some HA.out (by have := HZ.out; omega)
      obtain ⟨c0, c1, c2⟩ := hc k _ hx
      have c0 := (hbw.cell hb).trans c0
      have c1 := (hbw.cell hb).trans c1
      have c2 := (hbw.cell hb).trans c2
      rw [all_step hx] at ht
      have HT := Hid.mk ht
      have hki : (k : Int) < (n : Int) := by omega
      obtain ⟨V, hV⟩ : ∃ V, V = wY.alloc (.cells #[.int .i64 x0, .int .i64 x1, .int .i64 x2] 51) := ⟨_, rfl⟩
      have hbV : Below w.heap.size w V := by rw [hV]; exact hbw.alloc hbw.size _
      have HB := Hid.mk hbV
      clear hc hx ht hbw hbV
      simp only at c0 c1 c2
      have HNO : Hid (stOk (x0, x1, x2) = false → gpB xs = false) := Hid.mk (fun h => by unfold gpB; rw [HT.out, h]; simp)
      by_cases e1 : x0 < 0
      · go_wp2
        go_ret
        exact ⟨ret_bool (HNO.out (stOk_no (by simp only; omega))).symm, by rw [← hV]; exact HB.out⟩
      by_cases e2 : 6 ≤ x0
      · go_wp2
        go_ret
        exact ⟨ret_bool (HNO.out (stOk_no (by simp only; omega))).symm, by rw [← hV]; exact HB.out⟩
      by_cases e3 : x2 < 0
      · go_wp2
        go_ret
        exact ⟨ret_bool (HNO.out (stOk_no (by simp only; omega))).symm, by rw [← hV]; exact HB.out⟩
      by_cases e4 : 4 ≤ x2
      · go_wp2
        go_ret
        exact ⟨ret_bool (HNO.out (stOk_no (by simp only; omega))).symm, by rw [← hV]; exact HB.out⟩
      have K := Hid.mk (fun w => l1In_any x1 1 2 w)
      by_cases e5 : 1 ≤ x1 ∧ x1 ≤ 2
      · have HY : Hid (stOk (x0, x1, x2) = true) := Hid.mk (stOk_iff.2 (by simp only; omega))
        rw [decide_eq_true e5.1, decide_eq_true e5.2] at K
        go_wp2_with (go_at_call 49; refine (K.out _).mono ?_; rintro e w5 ⟨rfl, hw5⟩; obtain rfl := hw5.symm)
        rw [← hV]
        go_roundw
        case rel => exact ⟨k + 1, by omega, by go_num, by rw [HT.out, HY.out]; rfl, HB.out⟩
        case measure => simp [intOf]; omega
      · have HY : Hid (stOk (x0, x1, x2) = false) := Hid.mk (stOk_no (by simp only; omega))
        have e6 : (decide (1 ≤ x1) && decide (x1 ≤ 2)) = false := by simp only [Bool.and_eq_false_iff, decide_eq_false_iff_not]; omega
        rw [e6] at K
        go_wp2_with (go_at_call 49; refine (K.out _).mono ?_; rintro e w5 ⟨rfl, hw5⟩; obtain rfl := hw5.symm)
        go_ret
        exact ⟨ret_bool (HNO.out HY.out).symm, by rw [← hV]; exact HB.out⟩
    · rw [all_done (by have := HZ.out; omega)] at ht
      have HT := Hid.mk ht
      clear ht
      have HG : Hid (gpB xs = decide ((n : Int) ≤ 40)) := Hid.mk (by unfold gpB; rw [HT.out, Bool.and_true]; have := HZ.out; rw [Bool.eq_iff_iff]; simp only [decide_eq_true_eq]; omega)
      go_wp2
      go_ret
      exact ⟨ret_bool HG.out.symm, hbw⟩

end Go.Proofs.YtjjebodlekepaaaDoor

/- Lists of steps that are cut. -/
namespace Go.Proofs.YtjjebodlekepaaaDoor
open Go.RowKit

theorem flat_take {w : World} {b off : Nat} {zs : List Int} (k : Nat) (h : At w (some ⟨b, off, none⟩) zs) : At w (some ⟨b, off, none⟩) (zs.take k) := by
  rcases h with rfl | ⟨b', off', e, hc⟩
  · exact .inl (by simp)
  · refine .inr ⟨b', off', e, fun i hi => ?_⟩
    have hi' : i < zs.length := by have := List.length_take (i := k) (l := zs); omega
    have hik : i < k := by have := List.length_take (i := k) (l := zs); omega
    rw [hc i hi']
    simp [List.getD, hik]
theorem flat_drop {w : World} {b off : Nat} {zs : List Int} (k : Nat) (h : At w (some ⟨b, off, none⟩) zs) : At w (some ⟨b, off + k, none⟩) (zs.drop k) := by
  rcases h with rfl | ⟨b', off', e, hc⟩
  · exact .inl (by simp)
  · simp only [Option.some.injEq, Addr.mk.injEq, and_true] at e
    obtain ⟨rfl, rfl⟩ := e
    refine .inr ⟨b, off + k, rfl, fun i hi => ?_⟩
    have hi' : k + i < zs.length := by simp at hi; omega
    rw [Nat.add_assoc, hc (k + i) hi']
    simp [List.getD]
theorem flStep_take : ∀ (xs : List TStep) (k : Nat), flStep (xs.take k) = (flStep xs).take (k * 3)
  | [], k => by simp [flatF]
  | x :: xs, 0 => by simp [flatF]
  | x :: xs, k + 1 => by
    have ih := flStep_take xs k
    have e : ∀ l, flStep (x :: l) = x.1 :: x.2.1 :: x.2.2 :: flStep l := fun _ => rfl
    rw [List.take_succ_cons, e, e, ih, show (k + 1) * 3 = k * 3 + 1 + 1 + 1 by omega]
    simp only [List.take_succ_cons]
theorem flStep_drop : ∀ (xs : List TStep) (k : Nat), flStep (xs.drop k) = (flStep xs).drop (k * 3)
  | [], k => by simp [flatF]
  | x :: xs, 0 => by simp
  | x :: xs, k + 1 => by
    have ih := flStep_drop xs k
    have e : ∀ l, flStep (x :: l) = x.1 :: x.2.1 :: x.2.2 :: flStep l := fun _ => rfl
    rw [List.drop_succ_cons, e, ih, show (k + 1) * 3 = k * 3 + 1 + 1 + 1 by omega]
    simp only [List.drop_succ_cons]
theorem own_rowC {w : World} {base g n : Nat} {e : TypeId} {xs : List Value} (h : w.ownsRow base e 1 (.slice (some ⟨g, 0, none⟩) n n) n xs) : w.heap[g]? = some (.cells xs.toArray e (0, 0)) := by
  rcases h.2 with ⟨hv, _⟩ | ⟨g', cap, cur, hv, _, hh, _, _, hs, ht⟩
  · cases hv
  · simp only [Value.slice.injEq, Option.some.injEq, Addr.mk.injEq, true_and, and_true] at hv
    obtain ⟨rfl, rfl⟩ := hv
    rw [hh, ← ht, List.take_of_length_le (by simp [hs])]

end Go.Proofs.YtjjebodlekepaaaDoor
