/- Contract of spec.SwapSteps. -/
import Derived.Test.YtociphdhkjoofabSwI
namespace Go.Proofs.Ytociphdhkjoofab
open Go.RowKit

theorem flat_take {w : World} {b off : Nat} {zs : List Int} (k : Nat) (h : At w (some ⟨b, off, none⟩) zs) : At w (some ⟨b, off, none⟩) (zs.take k) := by
  rcases h with rfl | ⟨b', off', e, hc⟩
  · exact .inl (by simp)
  · refine .inr ⟨b', off', e, fun i hi => ?_⟩
    have hi' : i < zs.length := by have := List.length_take (i := k) (l := zs); omega
    have hik : i < k := by have := List.length_take (i := k) (l := zs); omega
    rw [hc i hi']
    simp [List.getD, hik]
theorem flat_drop {w : World} {b off : Nat} {zs : List Int} (k : Nat) (h : At w (some ⟨b, off, none⟩) zs) : At w (some ⟨b, off + k, none⟩) (zs.drop k) := by
  rcases h with rfl | ⟨b', off', e, hc⟩
  · exact .inl (by simp)
  · simp only [Option.some.injEq, Addr.mk.injEq, and_true] at e
    obtain ⟨rfl, rfl⟩ := e
    refine .inr ⟨b, off + k, rfl, fun i hi => ?_⟩
    have hi' : k + i < zs.length := by simp at hi; omega
    rw [Nat.add_assoc, hc (k + i) hi']
    simp [List.getD]

theorem flStep_take : ∀ (xs : List TStep) (k : Nat), flStep (xs.take k) = (flStep xs).take (k * 3)
  | [], k => by simp [flatF]
  | x :: xs, 0 => by simp [flatF]
  | x :: xs, k + 1 => by
    have ih := flStep_take xs k
    have e : ∀ l, flStep (x :: l) = x.1 :: x.2.1 :: x.2.2 :: flStep l := fun _ => rfl
    rw [List.take_succ_cons, e, e, ih, show (k + 1) * 3 = k * 3 + 1 + 1 + 1 by omega]
    simp only [List.take_succ_cons]
theorem flStep_drop : ∀ (xs : List TStep) (k : Nat), flStep (xs.drop k) = (flStep xs).drop (k * 3)
  | [], k => by simp [flatF]
  | x :: xs, 0 => by simp
  | x :: xs, k + 1 => by
    have ih := flStep_drop xs k
    have e : ∀ l, flStep (x :: l) = x.1 :: x.2.1 :: x.2.2 :: flStep l := fun _ => rfl
    rw [List.drop_succ_cons, e, ih, show (k + 1) * 3 = k * 3 + 1 + 1 + 1 by omega]
    simp only [List.drop_succ_cons]
theorem flStep_app (a b : List TStep) : flStep (a ++ b) = flStep a ++ flStep b := by simp [flatF]

set_option maxRecDepth 100000 in
set_option maxHeartbeats 4000000 in
theorem specSwapSteps (a : Option Addr) (n c : Nat) (xs : List TStep) (k : Int) (w : World) (hz : xs.length = n) (hn : n ≤ 1048576) (hnc : n ≤ c) (hF : a = none → c = 0) (ha : At w a (flStep xs)) :
    Calls Try.prog 6 #[.slice a n c, .int .i64 k] w fun e w' => StepsRet e w' w.heap.size (swB xs k) (swL xs k) ∧ Below w.heap.size w w' := by
  obtain ⟨j0, hj0, hy0, hy1, hy2⟩ := info_parts Try.infFStep
  have KG : Hid (Calls Try.prog 14 #[.slice a n c] w.drew fun e w' => e = .returned (.bool (gpB xs)) ∧ Below w.drew.heap.size w.drew w') := Hid.mk (specGoodSteps a n c xs w.drew hz (by omega) (At.below ha (Below.refl _ _).drew))
  have HZ := Hid.mk hz
  have HA := Hid.mk ha
  have hwn : IntKind.i64.wrap ((n : Int) - 1) = (n : Int) - 1 := IntWalk.i64_in _ (by omega)
  clear hz ha
  have HNO : Hid (∀ w1 : World, Below w.heap.size w w1 → swB xs k = false → StepsRet (.returned (.tuple #[.slice none 0 0, .bool false])) w1 w.heap.size (swB xs k) (swL xs k) ∧ Below w.heap.size w w1) := Hid.mk (fun w1 hb h => ⟨by rw [swL_no h, h]; exact StepsRet.no, hb⟩)
  cases hgd : gpB xs with
  | false =>
    have HV := Hid.mk (swB_bad (k := k) hgd)
    go_enter Try.func6, Try.ntmps6
    go_upto_region 1 with fail
    refine wp_region_held_drew (S := fun w' => True) (by kernel_rfl) ?_ (fun hHeld => ?_)
    · (try dsimp only)
      (try trivial)
    refine tk 0 ?_
    refine tr 1 (fun K hK => ?_)
    go_simp
    go_at_call 14
    refine (KG.out).mono ?_
    rintro e w1 ⟨rfl, hb1⟩
    have hb1 : Below w.heap.size w w1 := (Below.refl _ _).drew.trans hb1
    rw [hgd]
    (try go_wp2_with fail)
    refine hK.out _ _ ?_ (fun hHeld' => ?_)
    · (try dsimp only)
      (try trivial)
    clear hK K hHeld
    have hHeld := hHeld'
    clear hHeld'
    (try simp only [Act.put, List.setIfInBounds_toArray, List.set_cons_zero, List.set_cons_succ])
    refine tk 2 ?_
    refine tk 3 ?_
    refine tu 4 ?_
    refine tu 5 ?_
    refine tk 6 ?_
    refine tk 7 ?_
    refine tu 8 ?_
    refine tu 9 ?_
    refine tu 10 ?_
    refine tu 11 ?_
    refine tu 12 ?_
    refine tk 13 ?_
    refine tk 14 ?_
    refine tu 15 ?_
    refine tu 16 ?_
    refine tu 17 ?_
    refine tu 18 ?_
    refine tu 19 ?_
    refine tu 20 ?_
    refine tu 21 ?_
    refine tu 22 ?_
    refine tu 23 ?_
    refine tu 24 ?_
    refine tu 25 ?_
    refine tu 26 ?_
    refine tk 27 ?_
    refine tk 28 ?_
    refine tu 29 ?_
    refine tu 30 ?_
    refine tu 31 ?_
    refine tu 32 ?_
    refine tu 33 ?_
    refine tu 34 ?_
    refine tu 35 ?_
    refine tu 36 ?_
    refine tu 37 ?_
    refine tu 38 ?_
    refine tk 39 ?_
    refine wpAnyH_done (by kernel_rfl) ?_ _
    clear hHeld
    go_wp2
    refine bodyPost_ret (v := .tuple #[.slice none 0 0, .bool false]) (by simp [results, Try.results6, go_sem]) rfl (HNO.out _ hb1 HV.out)
  | true =>
  by_cases hk0 : k < 0
  · have HV := Hid.mk (swB_low (xs := xs) hk0)
    have dk0 : decide (k < 0) = true := decide_eq_true hk0
    go_enter Try.func6, Try.ntmps6
    go_upto_region 1 with fail
    refine wp_region_held_drew (S := fun w' => True) (by kernel_rfl) ?_ (fun hHeld => ?_)
    · (try dsimp only)
      (try trivial)
    refine tk 0 ?_
    refine tr 1 (fun K hK => ?_)
    go_simp
    go_at_call 14
    refine (KG.out).mono ?_
    rintro e w1 ⟨rfl, hb1⟩
    have hb1 : Below w.heap.size w w1 := (Below.refl _ _).drew.trans hb1
    rw [hgd]
    (try go_wp2_with fail)
    refine hK.out _ _ ?_ (fun hHeld' => ?_)
    · (try dsimp only)
      (try trivial)
    clear hK K hHeld
    have hHeld := hHeld'
    clear hHeld'
    (try simp only [Act.put, List.setIfInBounds_toArray, List.set_cons_zero, List.set_cons_succ])
    refine tk 2 ?_
    refine tk 3 ?_
    refine tk 4 ?_
    refine tk 5 ?_
    refine tk 6 ?_
    refine tk 7 ?_
    refine tu 8 ?_
    refine tu 9 ?_
    refine tu 10 ?_
    refine tu 11 ?_
    refine tu 12 ?_
    refine tk 13 ?_
    refine tk 14 ?_
    refine tu 15 ?_
    refine tu 16 ?_
    refine tu 17 ?_
    refine tu 18 ?_
    refine tu 19 ?_
    refine tu 20 ?_
    refine tu 21 ?_
    refine tu 22 ?_
    refine tu 23 ?_
    refine tu 24 ?_
    refine tu 25 ?_
    refine tu 26 ?_
    refine tk 27 ?_
    refine tk 28 ?_
    refine tu 29 ?_
    refine tu 30 ?_
    refine tu 31 ?_
    refine tu 32 ?_
    refine tu 33 ?_
    refine tu 34 ?_
    refine tu 35 ?_
    refine tu 36 ?_
    refine tu 37 ?_
    refine tu 38 ?_
    refine tk 39 ?_
    refine wpAnyH_done (by kernel_rfl) ?_ _
    clear hHeld
    go_wp2
    refine bodyPost_ret (v := .tuple #[.slice none 0 0, .bool false]) (by simp [results, Try.results6, go_sem]) rfl (HNO.out _ hb1 HV.out)
  have dk0 : decide (k < 0) = false := decide_eq_false hk0
  by_cases hkn : (n : Int) - 1 ≤ k
  · have HV : Hid (swB xs k = false) := Hid.mk (swB_high (by rw [HZ.out]; exact hkn))
    have dkn : decide ((n : Int) - 1 ≤ k) = true := decide_eq_true hkn
    go_enter Try.func6, Try.ntmps6
    go_upto_region 1 with fail
    refine wp_region_held_drew (S := fun w' => True) (by kernel_rfl) ?_ (fun hHeld => ?_)
    · (try dsimp only)
      (try trivial)
    refine tk 0 ?_
    refine tr 1 (fun K hK => ?_)
    go_simp
    go_at_call 14
    refine (KG.out).mono ?_
    rintro e w1 ⟨rfl, hb1⟩
    have hb1 : Below w.heap.size w w1 := (Below.refl _ _).drew.trans hb1
    rw [hgd]
    (try go_wp2_with fail)
    refine hK.out _ _ ?_ (fun hHeld' => ?_)
    · (try dsimp only)
      (try trivial)
    clear hK K hHeld
    have hHeld := hHeld'
    clear hHeld'
    (try simp only [Act.put, List.setIfInBounds_toArray, List.set_cons_zero, List.set_cons_succ])
    refine tk 2 ?_
    refine tk 3 ?_
    refine tk 4 ?_
    refine tk 5 ?_
    refine tk 6 ?_
    refine tk 7 ?_
    refine tk 8 ?_
    refine tk 9 ?_
    refine tk 10 ?_
    refine tk 11 ?_
    refine tk 12 ?_
    refine tk 13 ?_
    refine tk 14 ?_
    refine tu 15 ?_
    refine tu 16 ?_
    refine tu 17 ?_
    refine tu 18 ?_
    refine tu 19 ?_
    refine tu 20 ?_
    refine tu 21 ?_
    refine tu 22 ?_
    refine tu 23 ?_
    refine tu 24 ?_
    refine tu 25 ?_
    refine tu 26 ?_
    refine tk 27 ?_
    refine tk 28 ?_
    refine tu 29 ?_
    refine tu 30 ?_
    refine tu 31 ?_
    refine tu 32 ?_
    refine tu 33 ?_
    refine tu 34 ?_
    refine tu 35 ?_
    refine tu 36 ?_
    refine tu 37 ?_
    refine tu 38 ?_
    refine tk 39 ?_
    refine wpAnyH_done (by kernel_rfl) ?_ _
    clear hHeld
    go_wp2
    refine bodyPost_ret (v := .tuple #[.slice none 0 0, .bool false]) (by simp [results, Try.results6, go_sem]) rfl (HNO.out _ hb1 HV.out)
  have dkn : decide ((n : Int) - 1 ≤ k) = false := decide_eq_false hkn
  obtain ⟨p, rfl⟩ : ∃ p : Nat, k = (p : Int) := ⟨k.toNat, by omega⟩
  have hp1 : p + 1 < n := by omega
  have hn40 : n ≤ 40 := by have := gp_len hgd; have := HZ.out; omega
  obtain ⟨⟨x0, x1, x2⟩, hx⟩ : ∃ x, xs[p]? = some x := ⟨_, List.getElem?_eq_getElem (by have := HZ.out; omega)⟩
  obtain ⟨⟨y0, y1, y2⟩, hy⟩ : ∃ x, xs[p + 1]? = some x := ⟨_, List.getElem?_eq_getElem (by have := HZ.out; omega)⟩
  obtain ⟨b, off, rfl, hbl, hc⟩ := flStep_some HA.out (by have := HZ.out; omega)
  obtain ⟨c0, c1, c2⟩ := hc p _ hx
  obtain ⟨d0, d1, d2⟩ := hc (p + 1) _ hy
  simp only at c0 c1 c2 d0 d1 d2
  have zc0 := c0
  have zc1 := c1
  have zc2 := c2
  have zd0 := d0
  have zd1 := d1
  have zd2 := d2
  have hwp : IntKind.i64.wrap ((p : Int) + 1) = ((p + 1 : Nat) : Int) := by rw [IntWalk.i64_in _ (by omega)]; omega
  have hp : p < n := by omega
  have hi1 : (0 : Int) ≤ (p : Int) + 1 := by omega
  have hi2 : (p : Int) + 1 < (n : Int) := by omega
  have gx := gp_at hgd hx
  have gy := gp_at hgd hy
  simp only at gx gy
  have HV := Hid.mk (swB_in hgd hx hy)
  have HX := Hid.mk hx
  have HY := Hid.mk hy
  have KC := Hid.mk (fun w => l13Clash_any x0 x1 x2 y0 y1 y2 w)
  clear hc hx hy
  by_cases e0 : x0 = y0
  · subst e0
    have HV2 : Hid (swB xs (p : Int) = false) := Hid.mk (by rw [HV.out]; simp)
    have e0' : (x0 == x0) = true := by simp
    go_enter Try.func6, Try.ntmps6
    go_upto_region 1 with fail
    refine wp_region_held_drew (S := fun w' => w'.cell? ⟨b, off + p * 3, none⟩ = some (.int .i64 x0) ∧ w'.cell? ⟨b, off + p * 3 + 1, none⟩ = some (.int .i64 x1) ∧ w'.cell? ⟨b, off + p * 3 + 2, none⟩ = some (.int .i64 x2) ∧ w'.cell? ⟨b, off + (p + 1) * 3, none⟩ = some (.int .i64 x0) ∧ w'.cell? ⟨b, off + (p + 1) * 3 + 1, none⟩ = some (.int .i64 y1) ∧ w'.cell? ⟨b, off + (p + 1) * 3 + 2, none⟩ = some (.int .i64 y2)) (by kernel_rfl) ?_ (fun hHeld => ?_)
    · (try dsimp only)
      exact ⟨c0, c1, c2, d0, d1, d2⟩
    refine tk 0 ?_
    refine tr 1 (fun K hK => ?_)
    go_simp
    go_at_call 14
    refine (KG.out).mono ?_
    rintro e w1 ⟨rfl, hb1⟩
    have hb1 : Below w.heap.size w w1 := (Below.refl _ _).drew.trans hb1
    rw [hgd]
    have c0 := cell_later hb1 c0
    have c1 := cell_later hb1 c1
    have c2 := cell_later hb1 c2
    have d0 := cell_later hb1 d0
    have d1 := cell_later hb1 d1
    have d2 := cell_later hb1 d2
    (try go_wp2_with fail)
    refine hK.out _ _ ?_ (fun hHeld' => ?_)
    · (try dsimp only)
      exact ⟨c0, c1, c2, d0, d1, d2⟩
    clear hK K hHeld
    have hHeld := hHeld'
    clear hHeld'
    (try simp only [Act.put, List.setIfInBounds_toArray, List.set_cons_zero, List.set_cons_succ])
    refine tk 2 ?_
    refine tk 3 ?_
    refine tk 4 ?_
    refine tk 5 ?_
    refine tk 6 ?_
    refine tk 7 ?_
    refine tk 8 ?_
    refine tk 9 ?_
    refine tk 10 ?_
    refine tk 11 ?_
    refine tk 12 ?_
    refine tk 13 ?_
    refine tk 14 ?_
    refine tk 15 ?_
    refine tk 16 ?_
    refine tk 17 ?_
    refine tk 18 ?_
    refine tk 19 ?_
    refine tk 20 ?_
    refine tk 21 ?_
    refine tk 22 ?_
    refine tk 23 ?_
    refine tk 24 ?_
    refine tk 25 ?_
    refine tk 26 ?_
    refine tk 27 ?_
    refine tk 28 ?_
    refine tu 29 ?_
    refine tu 30 ?_
    refine tu 31 ?_
    refine tu 32 ?_
    refine tu 33 ?_
    refine tu 34 ?_
    refine tu 35 ?_
    refine tu 36 ?_
    refine tu 37 ?_
    refine tu 38 ?_
    refine tk 39 ?_
    refine wpAnyH_done (by kernel_rfl) ?_ _
    clear hHeld
    go_wp2
    refine bodyPost_ret (v := .tuple #[.slice none 0 0, .bool false]) (by simp [results, Try.results6, go_sem]) rfl (HNO.out _ hb1 HV2.out)
  have e0' : (x0 == y0) = false := beq_eq_false_iff_ne.2 e0
  cases hcl : clB (x0, x1, x2) (y0, y1, y2) with
  | true =>
    have HV2 : Hid (swB xs (p : Int) = false) := Hid.mk (by rw [HV.out, hcl]; simp)
    go_enter Try.func6, Try.ntmps6
    go_upto_region 1 with fail
    refine wp_region_held_drew (S := fun w' => w'.cell? ⟨b, off + p * 3, none⟩ = some (.int .i64 x0) ∧ w'.cell? ⟨b, off + p * 3 + 1, none⟩ = some (.int .i64 x1) ∧ w'.cell? ⟨b, off + p * 3 + 2, none⟩ = some (.int .i64 x2) ∧ w'.cell? ⟨b, off + (p + 1) * 3, none⟩ = some (.int .i64 y0) ∧ w'.cell? ⟨b, off + (p + 1) * 3 + 1, none⟩ = some (.int .i64 y1) ∧ w'.cell? ⟨b, off + (p + 1) * 3 + 2, none⟩ = some (.int .i64 y2)) (by kernel_rfl) ?_ (fun hHeld => ?_)
    · (try dsimp only)
      exact ⟨c0, c1, c2, d0, d1, d2⟩
    refine tk 0 ?_
    refine tr 1 (fun K hK => ?_)
    go_simp
    go_at_call 14
    refine (KG.out).mono ?_
    rintro e w1 ⟨rfl, hb1⟩
    have hb1 : Below w.heap.size w w1 := (Below.refl _ _).drew.trans hb1
    rw [hgd]
    have c0 := cell_later hb1 c0
    have c1 := cell_later hb1 c1
    have c2 := cell_later hb1 c2
    have d0 := cell_later hb1 d0
    have d1 := cell_later hb1 d1
    have d2 := cell_later hb1 d2
    (try go_wp2_with fail)
    refine hK.out _ _ ?_ (fun hHeld' => ?_)
    · (try dsimp only)
      exact ⟨c0, c1, c2, d0, d1, d2⟩
    clear hK K hHeld
    have hHeld := hHeld'
    clear hHeld'
    (try simp only [Act.put, List.setIfInBounds_toArray, List.set_cons_zero, List.set_cons_succ])
    refine tk 2 ?_
    refine tk 3 ?_
    refine tk 4 ?_
    refine tk 5 ?_
    refine tk 6 ?_
    refine tk 7 ?_
    refine tk 8 ?_
    refine tk 9 ?_
    refine tk 10 ?_
    refine tk 11 ?_
    refine tk 12 ?_
    refine tk 13 ?_
    refine tk 14 ?_
    refine tk 15 ?_
    refine tk 16 ?_
    refine tk 17 ?_
    refine tk 18 ?_
    refine tk 19 ?_
    refine tk 20 ?_
    refine tk 21 ?_
    refine tk 22 ?_
    refine tk 23 ?_
    refine tk 24 ?_
    refine tk 25 ?_
    refine tk 26 ?_
    refine tk 27 ?_
    refine tk 28 ?_
    refine tk 29 ?_
    refine tk 30 ?_
    refine tk 31 ?_
    refine tk 32 ?_
    refine tk 33 ?_
    refine tk 34 ?_
    refine tk 35 ?_
    refine tk 36 ?_
    refine tk 37 ?_
    refine tr 38 (fun K hK => ?_)
    go_simp
    go_at_call 15
    refine (KC.out w1).mono ?_
    rintro e w2 ⟨rfl, hb2⟩
    rw [hcl]
    have hb2 : Below w.heap.size w w2 := hb1.trans (hb2.mono hb1.size)
    have c0 := (hb2.cell hbl).trans zc0
    have c1 := (hb2.cell hbl).trans zc1
    have c2 := (hb2.cell hbl).trans zc2
    have d0 := (hb2.cell hbl).trans zd0
    have d1 := (hb2.cell hbl).trans zd1
    have d2 := (hb2.cell hbl).trans zd2
    (try go_wp2_with fail)
    refine hK.out _ _ ?_ (fun hHeld' => ?_)
    · (try dsimp only)
      exact ⟨c0, c1, c2, d0, d1, d2⟩
    clear hK K hHeld
    have hHeld := hHeld'
    clear hHeld'
    (try simp only [Act.put, List.setIfInBounds_toArray, List.set_cons_zero, List.set_cons_succ])
    refine tk 39 ?_
    refine wpAnyH_done (by kernel_rfl) ?_ _
    clear hHeld
    go_wp2
    refine bodyPost_ret (v := .tuple #[.slice none 0 0, .bool false]) (by simp [results, Try.results6, go_sem]) rfl (HNO.out _ hb2 HV2.out)
  | false =>
    have HV2 : Hid (swB xs (p : Int) = true) := Hid.mk (by rw [HV.out, hcl]; simp [e0])
    have HL := Hid.mk (swL_in HV2.out HX.out HY.out)
    go_enter Try.func6, Try.ntmps6
    go_upto_region 1 with fail
    refine wp_region_held_drew (S := fun w' => w'.cell? ⟨b, off + p * 3, none⟩ = some (.int .i64 x0) ∧ w'.cell? ⟨b, off + p * 3 + 1, none⟩ = some (.int .i64 x1) ∧ w'.cell? ⟨b, off + p * 3 + 2, none⟩ = some (.int .i64 x2) ∧ w'.cell? ⟨b, off + (p + 1) * 3, none⟩ = some (.int .i64 y0) ∧ w'.cell? ⟨b, off + (p + 1) * 3 + 1, none⟩ = some (.int .i64 y1) ∧ w'.cell? ⟨b, off + (p + 1) * 3 + 2, none⟩ = some (.int .i64 y2)) (by kernel_rfl) ?_ (fun hHeld => ?_)
    · (try dsimp only)
      exact ⟨c0, c1, c2, d0, d1, d2⟩
    refine tk 0 ?_
    refine tr 1 (fun K hK => ?_)
    go_simp
    go_at_call 14
    refine (KG.out).mono ?_
    rintro e w1 ⟨rfl, hb1⟩
    have hb1 : Below w.heap.size w w1 := (Below.refl _ _).drew.trans hb1
    rw [hgd]
    have c0 := cell_later hb1 c0
    have c1 := cell_later hb1 c1
    have c2 := cell_later hb1 c2
    have d0 := cell_later hb1 d0
    have d1 := cell_later hb1 d1
    have d2 := cell_later hb1 d2
    (try go_wp2_with fail)
    refine hK.out _ _ ?_ (fun hHeld' => ?_)
    · (try dsimp only)
      exact ⟨c0, c1, c2, d0, d1, d2⟩
    clear hK K hHeld
    have hHeld := hHeld'
    clear hHeld'
    (try simp only [Act.put, List.setIfInBounds_toArray, List.set_cons_zero, List.set_cons_succ])
    refine tk 2 ?_
    refine tk 3 ?_
    refine tk 4 ?_
    refine tk 5 ?_
    refine tk 6 ?_
    refine tk 7 ?_
    refine tk 8 ?_
    refine tk 9 ?_
    refine tk 10 ?_
    refine tk 11 ?_
    refine tk 12 ?_
    refine tk 13 ?_
    refine tk 14 ?_
    refine tk 15 ?_
    refine tk 16 ?_
    refine tk 17 ?_
    refine tk 18 ?_
    refine tk 19 ?_
    refine tk 20 ?_
    refine tk 21 ?_
    refine tk 22 ?_
    refine tk 23 ?_
    refine tk 24 ?_
    refine tk 25 ?_
    refine tk 26 ?_
    refine tk 27 ?_
    refine tk 28 ?_
    refine tk 29 ?_
    refine tk 30 ?_
    refine tk 31 ?_
    refine tk 32 ?_
    refine tk 33 ?_
    refine tk 34 ?_
    refine tk 35 ?_
    refine tk 36 ?_
    refine tk 37 ?_
    refine tr 38 (fun K hK => ?_)
    go_simp
    go_at_call 15
    refine (KC.out w1).mono ?_
    rintro e w2 ⟨rfl, hb2⟩
    rw [hcl]
    have hb2 : Below w.heap.size w w2 := hb1.trans (hb2.mono hb1.size)
    have c0 := (hb2.cell hbl).trans zc0
    have c1 := (hb2.cell hbl).trans zc1
    have c2 := (hb2.cell hbl).trans zc2
    have d0 := (hb2.cell hbl).trans zd0
    have d1 := (hb2.cell hbl).trans zd1
    have d2 := (hb2.cell hbl).trans zd2
    (try go_wp2_with fail)
    refine hK.out _ _ ?_ (fun hHeld' => ?_)
    · (try dsimp only)
      exact ⟨c0, c1, c2, d0, d1, d2⟩
    clear hK K hHeld
    have hHeld := hHeld'
    clear hHeld'
    (try simp only [Act.put, List.setIfInBounds_toArray, List.set_cons_zero, List.set_cons_succ])
    refine tk 39 ?_
    refine wpAnyH_done (by kernel_rfl) ?_ _
    clear hHeld
    have HB2 := Hid.mk hb2
    have hbl2 : b < w2.heap.size := Nat.lt_of_lt_of_le hbl hb2.size
    have yc0 := c0
    have yc1 := c1
    have yc2 := c2
    have yd0 := d0
    have yd1 := d1
    have yd2 := d2
    obtain ⟨A1, hA1⟩ : ∃ l, (flStep (xs.take p)).map (Value.int .i64) = l := ⟨_, rfl⟩
    have HA1L : Hid (A1.length = p * 3) := Hid.mk (by rw [← hA1, List.length_map, flStep_len, List.length_take, HZ.out]; congr 1; omega)
    have HA1V : Hid (∀ ad, (some (⟨b, off, none⟩ : Addr)) = some ad → ∀ (j : Nat) (u : Value), A1[j]? = some u → (w2.alloc (.cells #[] 36)).cell? (ad.add j) = some u) := Hid.mk (by rw [← hA1, flStep_take]; exact flat_vals ((flat_take _ (At.below HA.out hb2)).alloc _))
    have HA1O : Hid (∀ u ∈ A1, u.oneCell' = true) := Hid.mk (by rw [← hA1]; exact flat_one _)
    have HA1 := Hid.mk hA1
    have OE := Hid.mk (own_void w2 36 3)
    have hpc : p ≤ c := by omega
    have hpn : p ≤ n := by omega
    clear hb1 KG KC hA1
    go_wp2_with (at_builtin; refine wpList_app_vals rfl (.tmp 47) (.tmp 50) 24 rfl w2.heap.size 36 j0 (.agg #[.int .i64 0, .int .i64 0, .int .i64 0]) 3 24 Try.underlying24 hj0 hy0 hy1 hy2 rfl (by decide) (.slice (some ⟨w2.heap.size, 0, none⟩) 0 0) 0 ([]) rfl OE.out (some ⟨b, off, none⟩) p (c) A1 rfl HA1L.out HA1V.out HA1O.out (fun h => by cases h) (by unfold maxLen; omega) (by omega) (by simp) ?_)
    intro r1 e1 w3 ho1 hg1 ht1
    have hb3 : Below w2.heap.size w2 w3 := ((Below.refl _ _).alloc (Nat.le_refl _) _).grown hg1 (by simp) (fun j hj => by simp [Value.ownBlock] at hj; omega)
    have HO1 : Hid (w3.ownsRow w2.heap.size 36 3 (.slice r1 p e1) p A1) := Hid.mk (by simpa using ho1)
    have c0 := cell_later hb3 c0
    have c1 := cell_later hb3 c1
    have c2 := cell_later hb3 c2
    have d0 := cell_later hb3 d0
    have d1 := cell_later hb3 d1
    have d2 := cell_later hb3 d2
    have HB3 := Hid.mk hb3
    (try simp only [Nat.zero_add])
    clear ho1 hg1 ht1 OE hb2 hb3
    go_upto_region 4 with fail
    refine wp_region_held_drew (S := fun w' => w'.cell? ⟨b, off + p * 3, none⟩ = some (.int .i64 x0) ∧ w'.cell? ⟨b, off + p * 3 + 1, none⟩ = some (.int .i64 x1) ∧ w'.cell? ⟨b, off + p * 3 + 2, none⟩ = some (.int .i64 x2) ∧ w'.cell? ⟨b, off + (p + 1) * 3, none⟩ = some (.int .i64 y0) ∧ w'.cell? ⟨b, off + (p + 1) * 3 + 1, none⟩ = some (.int .i64 y1) ∧ w'.cell? ⟨b, off + (p + 1) * 3 + 2, none⟩ = some (.int .i64 y2)) (by kernel_rfl) ?_ (fun hHeld => ?_)
    · (try dsimp only)
      exact ⟨c0, c1, c2, d0, d1, d2⟩
    refine tk 0 ?_
    refine tk 1 ?_
    refine tk 2 ?_
    refine tk 3 ?_
    refine tk 4 ?_
    refine tk 5 ?_
    refine tk 6 ?_
    refine tk 7 ?_
    refine tk 8 ?_
    refine tk 9 ?_
    obtain ⟨X0, hX0⟩ : ∃ u, u = w3.drew := ⟨_, rfl⟩
    rw [← hX0]
    have HX0 : Below w2.heap.size w2 X0 := by rw [hX0]; exact HB3.out.drew
    have HO1 : Hid (X0.ownsRow w2.heap.size 36 3 (.slice r1 p e1) p A1) := by rw [hX0]; exact Hid.mk (owns_below HO1.out (Below.refl _ _).drew)
    have c0 : X0.cell? ⟨b, off + p * 3, none⟩ = some (.int .i64 x0) := by rw [hX0]; exact c0
    have c1 : X0.cell? ⟨b, off + p * 3 + 1, none⟩ = some (.int .i64 x1) := by rw [hX0]; exact c1
    have c2 : X0.cell? ⟨b, off + p * 3 + 2, none⟩ = some (.int .i64 x2) := by rw [hX0]; exact c2
    have d0 : X0.cell? ⟨b, off + (p + 1) * 3, none⟩ = some (.int .i64 y0) := by rw [hX0]; exact d0
    have d1 : X0.cell? ⟨b, off + (p + 1) * 3 + 1, none⟩ = some (.int .i64 y1) := by rw [hX0]; exact d1
    have d2 : X0.cell? ⟨b, off + (p + 1) * 3 + 2, none⟩ = some (.int .i64 y2) := by rw [hX0]; exact d2
    clear hX0
    refine wpAnyH_ready (rs := [10]) (by kernel_rfl) (by simp) ?_
    refine AllReadyH.cons (o := ?_) ?_ (fun K hK => ?_) AllReadyH.nil
    rotate_left
    · (simp only [List.getElem?_toArray, List.getElem?_cons_zero, List.getElem?_cons_succ]; rfl)
    go_simp
    skip
    (try go_wp2_with fail)
    refine hK.out _ _ ?_ (fun hHeld' => ?_)
    · (try dsimp only)
      exact ⟨cell_later ((Below.refl _ _).alloc (Nat.le_refl _) _) c0, cell_later ((Below.refl _ _).alloc (Nat.le_refl _) _) c1, cell_later ((Below.refl _ _).alloc (Nat.le_refl _) _) c2, cell_later ((Below.refl _ _).alloc (Nat.le_refl _) _) d0, cell_later ((Below.refl _ _).alloc (Nat.le_refl _) _) d1, cell_later ((Below.refl _ _).alloc (Nat.le_refl _) _) d2⟩
    clear hK K hHeld
    have hHeld := hHeld'
    clear hHeld'
    (try simp only [Act.put, List.setIfInBounds_toArray, List.set_cons_zero, List.set_cons_succ])
    obtain ⟨V, hV⟩ : ∃ u, u = X0.alloc (.cells #[.int .i64 y0, .int .i64 y1, .int .i64 y2, .int .i64 x0, .int .i64 x1, .int .i64 x2] 36) := ⟨_, rfl⟩
    have hbV : Below X0.heap.size X0 V := by rw [hV]; exact (Below.refl _ _).alloc (Nat.le_refl _) _
    have HNV : Hid (∀ ad, (some (⟨X0.heap.size, 0, none⟩ : Addr)) = some ad → ∀ (j : Nat) (u : Value), [.int .i64 y0, .int .i64 y1, .int .i64 y2, .int .i64 x0, .int .i64 x1, .int .i64 x2][j]? = some u → V.cell? (ad.add j) = some u) := Hid.mk (by rw [hV]; intro ad he; cases he; simpa using news_at X0 #[.int .i64 y0, .int .i64 y1, .int .i64 y2, .int .i64 x0, .int .i64 x1, .int .i64 x2] 36)
    have HO1 := Hid.mk (owns_below HO1.out hbV)
    have HBV : Below w2.heap.size w2 V := HX0.trans (hbV.mono HX0.size)
    have c0 := cell_later hbV c0
    have c1 := cell_later hbV c1
    have c2 := cell_later hbV c2
    have d0 := cell_later hbV d0
    have d1 := cell_later hbV d1
    have d2 := cell_later hbV d2
    rw [← hV]
    clear hV hbV
    refine wpAnyH_ready (rs := [11]) (by kernel_rfl) (by simp) ?_
    refine AllReadyH.cons (o := ?_) ?_ (fun K hK => ?_) AllReadyH.nil
    rotate_left
    · (simp only [List.getElem?_toArray, List.getElem?_cons_zero, List.getElem?_cons_succ]; rfl)
    refine step_append_vals rfl (.tmp 52) (.tmp 62) 24 rfl w2.heap.size 36 j0 (.agg #[.int .i64 0, .int .i64 0, .int .i64 0]) 3 24 Try.underlying24 hj0 hy0 hy1 hy2 rfl (by decide) (.slice r1 p e1) p A1 (by simp [Act.eval]) HO1.out (some ⟨X0.heap.size, 0, none⟩) 2 2 [.int .i64 y0, .int .i64 y1, .int .i64 y2, .int .i64 x0, .int .i64 x1, .int .i64 x2] (by simp [Act.eval]) rfl HNV.out (by intro u hu; simp at hu; rcases hu with rfl | rfl | rfl | rfl | rfl | rfl <;> rfl) (fun h => by cases h) (by unfold maxLen; omega) (by omega) HBV.size (fun r5 d5 w5 ho5 hg5 ht5 => ?_)
    have HB5 : Below w2.heap.size w2 w5 := HBV.grown hg5 HBV.size (fun j hj => (HO1.out.lt j hj).1)
    have c0 := (HB5.cell hbl2).trans (show w2.cell? ⟨b, off + p * 3, none⟩ = some (.int .i64 x0) from yc0)
    have c1 := (HB5.cell hbl2).trans (show w2.cell? ⟨b, off + p * 3 + 1, none⟩ = some (.int .i64 x1) from yc1)
    have c2 := (HB5.cell hbl2).trans (show w2.cell? ⟨b, off + p * 3 + 2, none⟩ = some (.int .i64 x2) from yc2)
    have d0 := (HB5.cell hbl2).trans (show w2.cell? ⟨b, off + (p + 1) * 3, none⟩ = some (.int .i64 y0) from yd0)
    have d1 := (HB5.cell hbl2).trans (show w2.cell? ⟨b, off + (p + 1) * 3 + 1, none⟩ = some (.int .i64 y1) from yd1)
    have d2 := (HB5.cell hbl2).trans (show w2.cell? ⟨b, off + (p + 1) * 3 + 2, none⟩ = some (.int .i64 y2) from yd2)
    refine hK.out _ _ ?_ (fun hHeld' => ?_)
    · (try dsimp only)
      exact ⟨c0, c1, c2, d0, d1, d2⟩
    clear hK K hHeld
    have hHeld := hHeld'
    clear hHeld'
    (try simp only [Act.put, List.setIfInBounds_toArray, List.set_cons_zero, List.set_cons_succ])
    refine tk 12 ?_
    refine wpAnyH_done (by kernel_rfl) ?_ _
    clear hHeld
    obtain ⟨q, hq⟩ : ∃ q, p + 2 = q := ⟨_, rfl⟩
    have hwq : IntKind.i64.wrap ((p : Int) + 2) = (q : Int) := by rw [IntWalk.i64_in _ (by omega)]; omega
    have hqn : q ≤ n := by omega
    have hqc : q ≤ c := by omega
    obtain ⟨A2, hA2⟩ : ∃ l, A1 ++ [.int .i64 y0, .int .i64 y1, .int .i64 y2, .int .i64 x0, .int .i64 x1, .int .i64 x2] = l := ⟨_, rfl⟩
    rw [hA2, hq] at ho5
    rw [hq]
    have HO5 := Hid.mk ho5
    have HA2 := Hid.mk hA2
    obtain ⟨A3, hA3⟩ : ∃ l, (flStep (xs.drop q)).map (Value.int .i64) = l := ⟨_, rfl⟩
    have HFL : Hid (A2 ++ A3 = (flStep (swL xs (p : Int))).map (.int .i64)) := Hid.mk (by
      rw [HL.out, ← hA2, ← hA3, ← HA1.out, flStep_app, List.map_append, flStep_cons, flStep_cons, hq, List.append_assoc]; rfl)
    have HLN : Hid ((swL xs (p : Int)).length = n) := Hid.mk (by rw [HL.out, ← swap_set HX.out HY.out, List.length_set, List.length_set]; exact HZ.out)
    have HA3L : Hid (A3.length = (n - q) * 3) := Hid.mk (by rw [← hA3, List.length_map, flStep_len, List.length_drop, HZ.out])
    have HA3O : Hid (∀ u ∈ A3, u.oneCell' = true) := Hid.mk (by rw [← hA3]; exact flat_one _)
    have HB5W : Hid (Below w.heap.size w w5) := Hid.mk (HB2.out.trans (HB5.mono HB2.out.size))
    have HBB5 := Hid.mk HB5
    by_cases hcq : c = q
    · obtain rfl : n = q := by omega
      have HA30 : Hid (A3 = []) := Hid.mk (List.eq_nil_of_length_eq_zero (by rw [HA3L.out]; simp))
      subst hcq
      clear hA2 hA3 ho5 hg5 ht5 HB5 HO1 HBV HX0 c0 c1 c2 d0 d1 d2
      rcases HO5.out.2 with ⟨_, h00⟩ | ⟨g5, cap5, cur5, hv5, _⟩
      · omega
      simp only [Value.slice.injEq, true_and] at hv5
      obtain ⟨rfl, rfl⟩ := hv5
      have HFIN : Hid (StepsRet (.returned (.tuple #[.slice (some ⟨g5, 0, none⟩) c d5, .bool true])) w5 w.heap.size (swB xs (p : Int)) (swL xs (p : Int))) := Hid.mk ⟨_, _, _, by rw [HV2.out], HLN.out, by rw [← HFL.out, HA30.out, List.append_nil]; exact owns_mono HO5.out HB2.out.size⟩
      go_wp2
      refine bodyPost_ret (v := .tuple #[.slice (some ⟨g5, 0, none⟩) c d5, .bool true]) (by simp [results, Try.results6, go_sem]) rfl ⟨HFIN.out, HB5W.out⟩
    · have hqc' : ¬ q = c := fun e => hcq e.symm
      have HA3V : Hid (∀ ad, (some (⟨b, off + q * 3, none⟩ : Addr)) = some ad → ∀ (j : Nat) (u : Value), A3[j]? = some u → w5.cell? (ad.add j) = some u) := Hid.mk (by rw [← hA3, flStep_drop]; exact flat_vals (flat_drop _ (At.below (At.below HA.out HB2.out) HB5)))
      clear hA2 hA3 ho5 hg5 ht5 HB5 HO1 HBV HX0 c0 c1 c2 d0 d1 d2
      go_wp2_with (at_builtin; refine wpList_app_vals rfl (.tmp 64) (.tmp 68) 24 rfl w2.heap.size 36 j0 (.agg #[.int .i64 0, .int .i64 0, .int .i64 0]) 3 24 Try.underlying24 hj0 hy0 hy1 hy2 rfl (by decide) (.slice r5 q d5) q (A2) rfl HO5.out (some ⟨b, off + q * 3, none⟩) (n - q) ((c - q)) A3 rfl HA3L.out HA3V.out HA3O.out (fun h => by cases h) (by unfold maxLen; omega) (by omega) HBB5.out.size ?_)
      intro r6 d6 w6 ho6 hg6 ht6
      have HB6 : Hid (Below w2.heap.size w2 w6) := HBB5.out.grown hg6 HBB5.out.size (fun j hj => (HO5.out.lt j hj).1)
      have HO6 : Hid (w6.ownsRow w2.heap.size 36 3 (.slice r6 n d6) n ((flStep (swL xs (p : Int))).map (.int .i64))) := Hid.mk (by
        have h9 := ho6
        rw [← HFL.out]
        first | exact h9 | (rw [show q + (n - q) = n by omega] at h9; exact h9))
      (try rw [show q + (n - q) = n by omega])
      have HFIN : Hid (StepsRet (.returned (.tuple #[.slice r6 n d6, .bool true])) w6 w.heap.size (swB xs (p : Int)) (swL xs (p : Int))) := Hid.mk ⟨_, _, _, by rw [HV2.out], HLN.out, owns_mono HO6.out HB2.out.size⟩
      have HBW6 : Hid (Below w.heap.size w w6) := Hid.mk (HB2.out.trans (HB6.out.mono HB2.out.size))
      clear ho6 hg6 ht6 HO6 HB6
      (try simp only [Nat.add_zero])
      go_wp2
      refine bodyPost_ret (v := .tuple #[.slice r6 n d6, .bool true]) (by simp [results, Try.results6, go_sem]) rfl ⟨HFIN.out, HBW6.out⟩

end Go.Proofs.Ytociphdhkjoofab
