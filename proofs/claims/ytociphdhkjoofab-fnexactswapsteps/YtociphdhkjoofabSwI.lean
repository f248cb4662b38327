/- Contracts of slices.Clone at steps and impl.SwapSteps. -/
import Derived.Test.YtociphdhkjoofabSwP
import Derived.Test.YtociphdhkjoofabSwC
import Derived.Test.YtociphdhkjoofabSrI
import Derived.Test.YtociphdhkjoofabStepW
import Derived.Test.YtociphdhkjoofabClnI
import Derived.Deep.CutBlock
namespace Go.Proofs.Ytociphdhkjoofab
open Go.RowKit

theorem eqNilSt (a : Option Addr) (n c : Nat) (w : World) : (binOp .eql 24 (.slice a n c) (.slice none 0 0)).run Try.prog w = .ok (.bool a.isNone) w := by
  have he : (Op.equalIn (9999 + 1) 24 (.slice a n c) (.slice none 0 0)).run Try.prog w = .ok a.isNone w := by
    unfold Op.equalIn
    simp only [Sem.run_bind, run_underlying Try.underlying24, Result.andThen_ok]
    cases a <;> rfl
  have he' : (Op.equal 24 (.slice a n c) (.slice none 0 0)).run Try.prog w = .ok a.isNone w := he
  simp only [binOp]
  rw [Sem.run_bind, he']
  rfl
theorem flat_vals {w : World} {ao : Option Addr} {zs : List Int} (hat : At w ao zs) : ∀ ad, ao = some ad → ∀ (j : Nat) (u : Value), (zs.map (Value.int .i64))[j]? = some u → w.cell? (ad.add j) = some u := by
  intro ad he j u hj
  have hjl : j < zs.length := by
    have := (List.getElem?_eq_some_iff.1 hj).1
    simpa using this
  obtain ⟨b, off, he2, _, hc⟩ := At.some hat (by omega)
  rw [he] at he2
  simp only [Option.some.injEq] at he2
  subst he2
  rw [Addr.add_lit, hc j hjl]
  simpa [List.getD, hjl] using hj
theorem flat_one (l : List Int) : ∀ u ∈ l.map (Value.int .i64), u.oneCell' = true := by
  intro u hu
  obtain ⟨z, _, rfl⟩ := List.mem_map.1 hu
  rfl

set_option maxHeartbeats 2000000 in
theorem cloneSt_any (a : Option Addr) (n c : Nat) (xs : List TStep) (w : World) (hz : xs.length = n) (hn : n ≤ 1048576) (hF : a = none → c = 0) (ha : At w a (flStep xs)) :
    Calls Try.prog 19 #[.slice a n c] w fun e w' => ∃ r d, e = .returned (.slice r n d) ∧ w'.ownsRow w.heap.size 36 3 (.slice r n d) n ((flStep xs).map (.int .i64)) ∧ Below w.heap.size w w' := by
  obtain ⟨i0, hi, hz0, hz1, hz2⟩ := info_parts Try.infFStep
  have hl := flStep_len xs
  cases a with
  | none =>
    have hc0 := hF rfl
    subst hc0
    have hM : flStep xs = [] := by rcases ha with h | ⟨b, off, h, _⟩; exact h; cases h
    rw [hM] at hl
    have hn0 : n = 0 := by rw [← hz]; simp at hl; omega
    subst hn0
    rw [hM]
    have hq := fun w => eqNilSt none 0 0 w
    go_enter Try.func19, Try.ntmps19
    go_wp2
    go_ret
    exact ⟨none, 0, rfl, World.ownsRow_nil _ _ _ _, Below.refl _ _⟩
  | some ad =>
    have OE := Hid.mk (own_void w 36 3)
    have HA := Hid.mk (ha.alloc (.cells #[] 36))
    have HL : Hid (((flStep xs).map (Value.int .i64)).length = n * 3) := Hid.mk (by rw [List.length_map, hl, hz])
    clear ha hF hz hl
    obtain ⟨L, hL⟩ : ∃ L, (flStep xs).map (Value.int .i64) = L := ⟨_, rfl⟩
    have HN : Hid (∀ ad', some ad = some ad' → ∀ (j : Nat) (u : Value), L[j]? = some u → (w.alloc (.cells #[] 36)).cell? (ad'.add j) = some u) := Hid.mk (by rw [← hL]; exact flat_vals HA.out)
    have H1 : Hid (∀ u ∈ L, u.oneCell' = true) := Hid.mk (by rw [← hL]; exact flat_one _)
    rw [hL] at HL ⊢
    clear hL HA
    have hq := fun w => eqNilSt (some ad) n c w
    go_enter Try.func19, Try.ntmps19
    go_wp2_with (at_builtin; refine wpList_app_vals rfl (.tmp 5) (.tmp 6) 24 rfl w.heap.size 36 i0 (.agg #[.int .i64 0, .int .i64 0, .int .i64 0]) 3 24 Try.underlying24 hi hz0 hz1 hz2 rfl (by decide) (.slice (some ⟨w.heap.size, 0, none⟩) 0 0) 0 [] rfl OE.out (some ad) n c L rfl HL.out HN.out H1.out (fun h => by cases h) (by unfold maxLen; omega) (by omega) (by simp) ?_)
    intro r1 d1 w1 ho1 hg1 ht1
    have HB : Hid (Below w.heap.size w w1) := ((Below.refl _ _).alloc (Nat.le_refl _) _).grown hg1 (by simp) (fun j hj => by simp [Value.ownBlock] at hj; omega)
    have HO : Hid (w1.ownsRow w.heap.size 36 3 (.slice r1 n d1) n L) := Hid.mk (by simpa using ho1)
    clear ho1 hg1 ht1
    go_wp2
    go_ret
    exact ⟨r1, d1, by first | rfl | simp, HO.out, HB.out⟩

theorem flStep_cons (x : TStep) (xs : List TStep) : (flStep (x :: xs)).map (Value.int .i64) = .int .i64 x.1 :: .int .i64 x.2.1 :: .int .i64 x.2.2 :: (flStep xs).map (.int .i64) := rfl
theorem flStep_set : ∀ (xs : List TStep) (k : Nat) (x : TStep), k < xs.length → (flStep (xs.set k x)).map (Value.int .i64) = ((((flStep xs).map (Value.int .i64)).set (k * 3) (.int .i64 x.1)).set (k * 3 + 1) (.int .i64 x.2.1)).set (k * 3 + 2) (.int .i64 x.2.2)
  | [], k, x, h => by simp at h
  | y :: ys, 0, x, _ => by
    rw [List.set_cons_zero, flStep_cons, flStep_cons]; rfl
  | y :: ys, k + 1, x, h => by
    have ih := flStep_set ys k x (by simpa using h)
    rw [List.set_cons_succ, flStep_cons, flStep_cons, ih, show (k + 1) * 3 = k * 3 + 1 + 1 + 1 by omega, show k * 3 + 1 + 1 + 1 + 1 = k * 3 + 1 + 1 + 1 + 1 from rfl, show k * 3 + 1 + 1 + 1 + 2 = k * 3 + 2 + 1 + 1 + 1 by omega]
    simp only [List.set_cons_succ]

set_option maxRecDepth 100000 in
set_option maxHeartbeats 4000000 in
theorem implSwapSteps (a : Option Addr) (n c : Nat) (xs : List TStep) (k : Int) (w : World) (hz : xs.length = n) (hn : n ≤ 1048576) (_hnc : n ≤ c) (hF : a = none → c = 0) (ha : At w a (flStep xs)) :
    Calls Try.prog 8 #[.slice a n c, .int .i64 k] w fun e w' => StepsRet e w' w.heap.size (swB xs k) (swL xs k) ∧ Below w.heap.size w w' := by
  obtain ⟨j0, hj0, hy0, hy1, hy2⟩ := info_parts Try.infFStep
  have KG : Hid (Calls Try.prog 17 #[.slice a n c] w.drew fun e w' => e = .returned (.bool (gpB xs)) ∧ Below w.drew.heap.size w.drew w') := Hid.mk (implGoodSteps a n c xs w.drew hz (by omega) (At.below ha (Below.refl _ _).drew))
  have HZ := Hid.mk hz
  have HA := Hid.mk ha
  have hwn : IntKind.i64.wrap ((n : Int) - 1) = (n : Int) - 1 := IntWalk.i64_in _ (by omega)
  clear hz ha
  have HNO : Hid (∀ w1 : World, Below w.heap.size w w1 → swB xs k = false → StepsRet (.returned (.tuple #[.slice none 0 0, .bool false])) w1 w.heap.size (swB xs k) (swL xs k) ∧ Below w.heap.size w w1) := Hid.mk (fun w1 hb h => ⟨by rw [swL_no h, h]; exact StepsRet.no, hb⟩)
  cases hgd : gpB xs with
  | false =>
    have HV := Hid.mk (swB_bad (k := k) hgd)
    go_enter Try.func8, Try.ntmps8
    go_upto_region 1 with fail
    refine wp_region_held_drew (S := fun w' => True) (by kernel_rfl) ?_ (fun hHeld => ?_)
    · (try dsimp only)
      (try trivial)
    refine tk 0 ?_
    refine tr 1 (fun K hK => ?_)
    go_simp
    go_at_call 17
    refine (KG.out).mono ?_
    rintro e w1 ⟨rfl, hb1⟩
    have hb1 : Below w.heap.size w w1 := (Below.refl _ _).drew.trans hb1
    rw [hgd]
    (try go_wp2_with fail)
    refine hK.out _ _ ?_ (fun hHeld' => ?_)
    · (try dsimp only)
      (try trivial)
    clear hK K hHeld
    have hHeld := hHeld'
    clear hHeld'
    (try simp only [Act.put, List.setIfInBounds_toArray, List.set_cons_zero, List.set_cons_succ])
    refine tk 2 ?_
    refine tk 3 ?_
    refine tu 4 ?_
    refine tu 5 ?_
    refine tk 6 ?_
    refine tk 7 ?_
    refine tu 8 ?_
    refine tu 9 ?_
    refine tu 10 ?_
    refine tu 11 ?_
    refine tu 12 ?_
    refine tk 13 ?_
    refine tk 14 ?_
    refine tu 15 ?_
    refine tu 16 ?_
    refine tu 17 ?_
    refine tu 18 ?_
    refine tu 19 ?_
    refine tu 20 ?_
    refine tu 21 ?_
    refine tu 22 ?_
    refine tu 23 ?_
    refine tu 24 ?_
    refine tu 25 ?_
    refine tu 26 ?_
    refine tk 27 ?_
    refine tk 28 ?_
    refine tu 29 ?_
    refine tu 30 ?_
    refine tu 31 ?_
    refine tu 32 ?_
    refine tu 33 ?_
    refine tu 34 ?_
    refine tu 35 ?_
    refine tu 36 ?_
    refine tu 37 ?_
    refine tu 38 ?_
    refine tk 39 ?_
    refine wpAnyH_done (by kernel_rfl) ?_ _
    clear hHeld
    go_wp2
    refine bodyPost_ret (v := .tuple #[.slice none 0 0, .bool false]) (by simp [results, Try.results8, go_sem]) rfl (HNO.out _ hb1 HV.out)
  | true =>
  by_cases hk0 : k < 0
  · have HV := Hid.mk (swB_low (xs := xs) hk0)
    have dk0 : decide (k < 0) = true := decide_eq_true hk0
    go_enter Try.func8, Try.ntmps8
    go_upto_region 1 with fail
    refine wp_region_held_drew (S := fun w' => True) (by kernel_rfl) ?_ (fun hHeld => ?_)
    · (try dsimp only)
      (try trivial)
    refine tk 0 ?_
    refine tr 1 (fun K hK => ?_)
    go_simp
    go_at_call 17
    refine (KG.out).mono ?_
    rintro e w1 ⟨rfl, hb1⟩
    have hb1 : Below w.heap.size w w1 := (Below.refl _ _).drew.trans hb1
    rw [hgd]
    (try go_wp2_with fail)
    refine hK.out _ _ ?_ (fun hHeld' => ?_)
    · (try dsimp only)
      (try trivial)
    clear hK K hHeld
    have hHeld := hHeld'
    clear hHeld'
    (try simp only [Act.put, List.setIfInBounds_toArray, List.set_cons_zero, List.set_cons_succ])
    refine tk 2 ?_
    refine tk 3 ?_
    refine tk 4 ?_
    refine tk 5 ?_
    refine tk 6 ?_
    refine tk 7 ?_
    refine tu 8 ?_
    refine tu 9 ?_
    refine tu 10 ?_
    refine tu 11 ?_
    refine tu 12 ?_
    refine tk 13 ?_
    refine tk 14 ?_
    refine tu 15 ?_
    refine tu 16 ?_
    refine tu 17 ?_
    refine tu 18 ?_
    refine tu 19 ?_
    refine tu 20 ?_
    refine tu 21 ?_
    refine tu 22 ?_
    refine tu 23 ?_
    refine tu 24 ?_
    refine tu 25 ?_
    refine tu 26 ?_
    refine tk 27 ?_
    refine tk 28 ?_
    refine tu 29 ?_
    refine tu 30 ?_
    refine tu 31 ?_
    refine tu 32 ?_
    refine tu 33 ?_
    refine tu 34 ?_
    refine tu 35 ?_
    refine tu 36 ?_
    refine tu 37 ?_
    refine tu 38 ?_
    refine tk 39 ?_
    refine wpAnyH_done (by kernel_rfl) ?_ _
    clear hHeld
    go_wp2
    refine bodyPost_ret (v := .tuple #[.slice none 0 0, .bool false]) (by simp [results, Try.results8, go_sem]) rfl (HNO.out _ hb1 HV.out)
  have dk0 : decide (k < 0) = false := decide_eq_false hk0
  by_cases hkn : (n : Int) - 1 ≤ k
  · have HV : Hid (swB xs k = false) := Hid.mk (swB_high (by rw [HZ.out]; exact hkn))
    have dkn : decide ((n : Int) - 1 ≤ k) = true := decide_eq_true hkn
    go_enter Try.func8, Try.ntmps8
    go_upto_region 1 with fail
    refine wp_region_held_drew (S := fun w' => True) (by kernel_rfl) ?_ (fun hHeld => ?_)
    · (try dsimp only)
      (try trivial)
    refine tk 0 ?_
    refine tr 1 (fun K hK => ?_)
    go_simp
    go_at_call 17
    refine (KG.out).mono ?_
    rintro e w1 ⟨rfl, hb1⟩
    have hb1 : Below w.heap.size w w1 := (Below.refl _ _).drew.trans hb1
    rw [hgd]
    (try go_wp2_with fail)
    refine hK.out _ _ ?_ (fun hHeld' => ?_)
    · (try dsimp only)
      (try trivial)
    clear hK K hHeld
    have hHeld := hHeld'
    clear hHeld'
    (try simp only [Act.put, List.setIfInBounds_toArray, List.set_cons_zero, List.set_cons_succ])
    refine tk 2 ?_
    refine tk 3 ?_
    refine tk 4 ?_
    refine tk 5 ?_
    refine tk 6 ?_
    refine tk 7 ?_
    refine tk 8 ?_
    refine tk 9 ?_
    refine tk 10 ?_
    refine tk 11 ?_
    refine tk 12 ?_
    refine tk 13 ?_
    refine tk 14 ?_
    refine tu 15 ?_
    refine tu 16 ?_
    refine tu 17 ?_
    refine tu 18 ?_
    refine tu 19 ?_
    refine tu 20 ?_
    refine tu 21 ?_
    refine tu 22 ?_
    refine tu 23 ?_
    refine tu 24 ?_
    refine tu 25 ?_
    refine tu 26 ?_
    refine tk 27 ?_
    refine tk 28 ?_
    refine tu 29 ?_
    refine tu 30 ?_
    refine tu 31 ?_
    refine tu 32 ?_
    refine tu 33 ?_
    refine tu 34 ?_
    refine tu 35 ?_
    refine tu 36 ?_
    refine tu 37 ?_
    refine tu 38 ?_
    refine tk 39 ?_
    refine wpAnyH_done (by kernel_rfl) ?_ _
    clear hHeld
    go_wp2
    refine bodyPost_ret (v := .tuple #[.slice none 0 0, .bool false]) (by simp [results, Try.results8, go_sem]) rfl (HNO.out _ hb1 HV.out)
  have dkn : decide ((n : Int) - 1 ≤ k) = false := decide_eq_false hkn
  obtain ⟨p, rfl⟩ : ∃ p : Nat, k = (p : Int) := ⟨k.toNat, by omega⟩
  have hp1 : p + 1 < n := by omega
  have hn40 : n ≤ 40 := by have := gp_len hgd; have := HZ.out; omega
  obtain ⟨⟨x0, x1, x2⟩, hx⟩ : ∃ x, xs[p]? = some x := ⟨_, List.getElem?_eq_getElem (by have := HZ.out; omega)⟩
  obtain ⟨⟨y0, y1, y2⟩, hy⟩ : ∃ x, xs[p + 1]? = some x := ⟨_, List.getElem?_eq_getElem (by have := HZ.out; omega)⟩
  obtain ⟨b, off, rfl, hbl, hc⟩ := flStep_some HA.out (by have := HZ.out; omega)
  obtain ⟨c0, c1, c2⟩ := hc p _ hx
  obtain ⟨d0, d1, d2⟩ := hc (p + 1) _ hy
  simp only at c0 c1 c2 d0 d1 d2
  have zc0 := c0
  have zc1 := c1
  have zc2 := c2
  have zd0 := d0
  have zd1 := d1
  have zd2 := d2
  have hwp : IntKind.i64.wrap ((p : Int) + 1) = ((p + 1 : Nat) : Int) := by rw [IntWalk.i64_in _ (by omega)]; omega
  have hp : p < n := by omega
  have hi1 : (0 : Int) ≤ (p : Int) + 1 := by omega
  have hi2 : (p : Int) + 1 < (n : Int) := by omega
  have gx := gp_at hgd hx
  have gy := gp_at hgd hy
  simp only at gx gy
  have HV := Hid.mk (swB_in hgd hx hy)
  have HX := Hid.mk hx
  have HY := Hid.mk hy
  have KC := Hid.mk (fun w => clash_any x0 x1 x2 y0 y1 y2 w (by omega) (by omega))
  clear hc hx hy
  by_cases e0 : x0 = y0
  · subst e0
    have HV2 : Hid (swB xs (p : Int) = false) := Hid.mk (by rw [HV.out]; simp)
    have e0' : (x0 == x0) = true := by simp
    go_enter Try.func8, Try.ntmps8
    go_upto_region 1 with fail
    refine wp_region_held_drew (S := fun w' => w'.cell? ⟨b, off + p * 3, none⟩ = some (.int .i64 x0) ∧ w'.cell? ⟨b, off + p * 3 + 1, none⟩ = some (.int .i64 x1) ∧ w'.cell? ⟨b, off + p * 3 + 2, none⟩ = some (.int .i64 x2) ∧ w'.cell? ⟨b, off + (p + 1) * 3, none⟩ = some (.int .i64 x0) ∧ w'.cell? ⟨b, off + (p + 1) * 3 + 1, none⟩ = some (.int .i64 y1) ∧ w'.cell? ⟨b, off + (p + 1) * 3 + 2, none⟩ = some (.int .i64 y2)) (by kernel_rfl) ?_ (fun hHeld => ?_)
    · (try dsimp only)
      exact ⟨c0, c1, c2, d0, d1, d2⟩
    refine tk 0 ?_
    refine tr 1 (fun K hK => ?_)
    go_simp
    go_at_call 17
    refine (KG.out).mono ?_
    rintro e w1 ⟨rfl, hb1⟩
    have hb1 : Below w.heap.size w w1 := (Below.refl _ _).drew.trans hb1
    rw [hgd]
    have c0 := cell_later hb1 c0
    have c1 := cell_later hb1 c1
    have c2 := cell_later hb1 c2
    have d0 := cell_later hb1 d0
    have d1 := cell_later hb1 d1
    have d2 := cell_later hb1 d2
    (try go_wp2_with fail)
    refine hK.out _ _ ?_ (fun hHeld' => ?_)
    · (try dsimp only)
      exact ⟨c0, c1, c2, d0, d1, d2⟩
    clear hK K hHeld
    have hHeld := hHeld'
    clear hHeld'
    (try simp only [Act.put, List.setIfInBounds_toArray, List.set_cons_zero, List.set_cons_succ])
    refine tk 2 ?_
    refine tk 3 ?_
    refine tk 4 ?_
    refine tk 5 ?_
    refine tk 6 ?_
    refine tk 7 ?_
    refine tk 8 ?_
    refine tk 9 ?_
    refine tk 10 ?_
    refine tk 11 ?_
    refine tk 12 ?_
    refine tk 13 ?_
    refine tk 14 ?_
    refine tk 15 ?_
    refine tk 16 ?_
    refine tk 17 ?_
    refine tk 18 ?_
    refine tk 19 ?_
    refine tk 20 ?_
    refine tk 21 ?_
    refine tk 22 ?_
    refine tk 23 ?_
    refine tk 24 ?_
    refine tk 25 ?_
    refine tk 26 ?_
    refine tk 27 ?_
    refine tk 28 ?_
    refine tu 29 ?_
    refine tu 30 ?_
    refine tu 31 ?_
    refine tu 32 ?_
    refine tu 33 ?_
    refine tu 34 ?_
    refine tu 35 ?_
    refine tu 36 ?_
    refine tu 37 ?_
    refine tu 38 ?_
    refine tk 39 ?_
    refine wpAnyH_done (by kernel_rfl) ?_ _
    clear hHeld
    go_wp2
    refine bodyPost_ret (v := .tuple #[.slice none 0 0, .bool false]) (by simp [results, Try.results8, go_sem]) rfl (HNO.out _ hb1 HV2.out)
  have e0' : (x0 == y0) = false := beq_eq_false_iff_ne.2 e0
  cases hcl : clB (x0, x1, x2) (y0, y1, y2) with
  | true =>
    have HV2 : Hid (swB xs (p : Int) = false) := Hid.mk (by rw [HV.out, hcl]; simp)
    go_enter Try.func8, Try.ntmps8
    go_upto_region 1 with fail
    refine wp_region_held_drew (S := fun w' => w'.cell? ⟨b, off + p * 3, none⟩ = some (.int .i64 x0) ∧ w'.cell? ⟨b, off + p * 3 + 1, none⟩ = some (.int .i64 x1) ∧ w'.cell? ⟨b, off + p * 3 + 2, none⟩ = some (.int .i64 x2) ∧ w'.cell? ⟨b, off + (p + 1) * 3, none⟩ = some (.int .i64 y0) ∧ w'.cell? ⟨b, off + (p + 1) * 3 + 1, none⟩ = some (.int .i64 y1) ∧ w'.cell? ⟨b, off + (p + 1) * 3 + 2, none⟩ = some (.int .i64 y2)) (by kernel_rfl) ?_ (fun hHeld => ?_)
    · (try dsimp only)
      exact ⟨c0, c1, c2, d0, d1, d2⟩
    refine tk 0 ?_
    refine tr 1 (fun K hK => ?_)
    go_simp
    go_at_call 17
    refine (KG.out).mono ?_
    rintro e w1 ⟨rfl, hb1⟩
    have hb1 : Below w.heap.size w w1 := (Below.refl _ _).drew.trans hb1
    rw [hgd]
    have c0 := cell_later hb1 c0
    have c1 := cell_later hb1 c1
    have c2 := cell_later hb1 c2
    have d0 := cell_later hb1 d0
    have d1 := cell_later hb1 d1
    have d2 := cell_later hb1 d2
    (try go_wp2_with fail)
    refine hK.out _ _ ?_ (fun hHeld' => ?_)
    · (try dsimp only)
      exact ⟨c0, c1, c2, d0, d1, d2⟩
    clear hK K hHeld
    have hHeld := hHeld'
    clear hHeld'
    (try simp only [Act.put, List.setIfInBounds_toArray, List.set_cons_zero, List.set_cons_succ])
    refine tk 2 ?_
    refine tk 3 ?_
    refine tk 4 ?_
    refine tk 5 ?_
    refine tk 6 ?_
    refine tk 7 ?_
    refine tk 8 ?_
    refine tk 9 ?_
    refine tk 10 ?_
    refine tk 11 ?_
    refine tk 12 ?_
    refine tk 13 ?_
    refine tk 14 ?_
    refine tk 15 ?_
    refine tk 16 ?_
    refine tk 17 ?_
    refine tk 18 ?_
    refine tk 19 ?_
    refine tk 20 ?_
    refine tk 21 ?_
    refine tk 22 ?_
    refine tk 23 ?_
    refine tk 24 ?_
    refine tk 25 ?_
    refine tk 26 ?_
    refine tk 27 ?_
    refine tk 28 ?_
    refine tk 29 ?_
    refine tk 30 ?_
    refine tk 31 ?_
    refine tk 32 ?_
    refine tk 33 ?_
    refine tk 34 ?_
    refine tk 35 ?_
    refine tk 36 ?_
    refine tk 37 ?_
    refine tr 38 (fun K hK => ?_)
    go_simp
    go_at_call 18
    refine (KC.out w1).mono ?_
    rintro e w2 ⟨rfl, hb2⟩
    rw [hcl]
    have hb2 : Below w.heap.size w w2 := hb1.trans (hb2.mono hb1.size)
    have c0 := (hb2.cell hbl).trans zc0
    have c1 := (hb2.cell hbl).trans zc1
    have c2 := (hb2.cell hbl).trans zc2
    have d0 := (hb2.cell hbl).trans zd0
    have d1 := (hb2.cell hbl).trans zd1
    have d2 := (hb2.cell hbl).trans zd2
    (try go_wp2_with fail)
    refine hK.out _ _ ?_ (fun hHeld' => ?_)
    · (try dsimp only)
      exact ⟨c0, c1, c2, d0, d1, d2⟩
    clear hK K hHeld
    have hHeld := hHeld'
    clear hHeld'
    (try simp only [Act.put, List.setIfInBounds_toArray, List.set_cons_zero, List.set_cons_succ])
    refine tk 39 ?_
    refine wpAnyH_done (by kernel_rfl) ?_ _
    clear hHeld
    go_wp2
    refine bodyPost_ret (v := .tuple #[.slice none 0 0, .bool false]) (by simp [results, Try.results8, go_sem]) rfl (HNO.out _ hb2 HV2.out)
  | false =>
    have HV2 : Hid (swB xs (p : Int) = true) := Hid.mk (by rw [HV.out, hcl]; simp [e0])
    have HL := Hid.mk (swL_in HV2.out HX.out HY.out)
    go_enter Try.func8, Try.ntmps8
    go_upto_region 1 with fail
    refine wp_region_held_drew (S := fun w' => w'.cell? ⟨b, off + p * 3, none⟩ = some (.int .i64 x0) ∧ w'.cell? ⟨b, off + p * 3 + 1, none⟩ = some (.int .i64 x1) ∧ w'.cell? ⟨b, off + p * 3 + 2, none⟩ = some (.int .i64 x2) ∧ w'.cell? ⟨b, off + (p + 1) * 3, none⟩ = some (.int .i64 y0) ∧ w'.cell? ⟨b, off + (p + 1) * 3 + 1, none⟩ = some (.int .i64 y1) ∧ w'.cell? ⟨b, off + (p + 1) * 3 + 2, none⟩ = some (.int .i64 y2)) (by kernel_rfl) ?_ (fun hHeld => ?_)
    · (try dsimp only)
      exact ⟨c0, c1, c2, d0, d1, d2⟩
    refine tk 0 ?_
    refine tr 1 (fun K hK => ?_)
    go_simp
    go_at_call 17
    refine (KG.out).mono ?_
    rintro e w1 ⟨rfl, hb1⟩
    have hb1 : Below w.heap.size w w1 := (Below.refl _ _).drew.trans hb1
    rw [hgd]
    have c0 := cell_later hb1 c0
    have c1 := cell_later hb1 c1
    have c2 := cell_later hb1 c2
    have d0 := cell_later hb1 d0
    have d1 := cell_later hb1 d1
    have d2 := cell_later hb1 d2
    (try go_wp2_with fail)
    refine hK.out _ _ ?_ (fun hHeld' => ?_)
    · (try dsimp only)
      exact ⟨c0, c1, c2, d0, d1, d2⟩
    clear hK K hHeld
    have hHeld := hHeld'
    clear hHeld'
    (try simp only [Act.put, List.setIfInBounds_toArray, List.set_cons_zero, List.set_cons_succ])
    refine tk 2 ?_
    refine tk 3 ?_
    refine tk 4 ?_
    refine tk 5 ?_
    refine tk 6 ?_
    refine tk 7 ?_
    refine tk 8 ?_
    refine tk 9 ?_
    refine tk 10 ?_
    refine tk 11 ?_
    refine tk 12 ?_
    refine tk 13 ?_
    refine tk 14 ?_
    refine tk 15 ?_
    refine tk 16 ?_
    refine tk 17 ?_
    refine tk 18 ?_
    refine tk 19 ?_
    refine tk 20 ?_
    refine tk 21 ?_
    refine tk 22 ?_
    refine tk 23 ?_
    refine tk 24 ?_
    refine tk 25 ?_
    refine tk 26 ?_
    refine tk 27 ?_
    refine tk 28 ?_
    refine tk 29 ?_
    refine tk 30 ?_
    refine tk 31 ?_
    refine tk 32 ?_
    refine tk 33 ?_
    refine tk 34 ?_
    refine tk 35 ?_
    refine tk 36 ?_
    refine tk 37 ?_
    refine tr 38 (fun K hK => ?_)
    go_simp
    go_at_call 18
    refine (KC.out w1).mono ?_
    rintro e w2 ⟨rfl, hb2⟩
    rw [hcl]
    have hb2 : Below w.heap.size w w2 := hb1.trans (hb2.mono hb1.size)
    have c0 := (hb2.cell hbl).trans zc0
    have c1 := (hb2.cell hbl).trans zc1
    have c2 := (hb2.cell hbl).trans zc2
    have d0 := (hb2.cell hbl).trans zd0
    have d1 := (hb2.cell hbl).trans zd1
    have d2 := (hb2.cell hbl).trans zd2
    (try go_wp2_with fail)
    refine hK.out _ _ ?_ (fun hHeld' => ?_)
    · (try dsimp only)
      exact ⟨c0, c1, c2, d0, d1, d2⟩
    clear hK K hHeld
    have hHeld := hHeld'
    clear hHeld'
    (try simp only [Act.put, List.setIfInBounds_toArray, List.set_cons_zero, List.set_cons_succ])
    refine tk 39 ?_
    refine wpAnyH_done (by kernel_rfl) ?_ _
    clear hHeld
    have KR := Hid.mk (cloneSt_any (some ⟨b, off, none⟩) n c xs w2 HZ.out hn (fun h => by cases h) (At.below HA.out hb2))
    have HB2 := Hid.mk hb2
    clear hb1 KG KC
    go_wp2_with fail
    refine KR.out.mono ?_
    rintro e w3 ⟨r, d, rfl, ho3, hb3⟩
    have c0 := cell_later hb3 c0
    have c1 := cell_later hb3 c1
    have c2 := cell_later hb3 c2
    have d0 := cell_later hb3 d0
    have d1 := cell_later hb3 d1
    have d2 := cell_later hb3 d2
    have HX0 : Hid (Below w.heap.size w w3.drew) := Hid.mk (HB2.out.trans (hb3.mono HB2.out.size)).drew
    have HO0 : Hid (w3.drew.ownsRow w.heap.size 36 3 (.slice r n d) n ((flStep xs).map (Value.int .i64))) := Hid.mk (owns_mono (owns_below ho3 (Below.refl _ _).drew) hb2.size)
    rcases ho3.2 with ⟨_, h00⟩ | ⟨g, cap, cur, hv, hgb, _⟩
    · omega
    simp only [Value.slice.injEq, true_and] at hv
    obtain ⟨rfl, rfl⟩ := hv
    have hwg : w.heap.size ≤ g := Nat.le_trans hb2.size hgb
    have hbg : b ≠ g := by omega
    have HL3 : Hid (((flStep xs).map (Value.int .i64)).length = n * 3) := Hid.mk (by rw [List.length_map, flStep_len, HZ.out])
    have HW3 : Hid (Below w.heap.size w w3.drew) := HX0
    clear KR hb3 hb2 ho3 hgb
    go_upto_region 4 with fail
    refine wp_region_held_drew (S := fun w' => w'.cell? ⟨b, off + p * 3, none⟩ = some (.int .i64 x0) ∧ w'.cell? ⟨b, off + p * 3 + 1, none⟩ = some (.int .i64 x1) ∧ w'.cell? ⟨b, off + p * 3 + 2, none⟩ = some (.int .i64 x2) ∧ w'.cell? ⟨b, off + (p + 1) * 3, none⟩ = some (.int .i64 y0) ∧ w'.cell? ⟨b, off + (p + 1) * 3 + 1, none⟩ = some (.int .i64 y1) ∧ w'.cell? ⟨b, off + (p + 1) * 3 + 2, none⟩ = some (.int .i64 y2)) (by kernel_rfl) ?_ (fun hHeld => ?_)
    · (try dsimp only)
      exact ⟨c0, c1, c2, d0, d1, d2⟩
    refine tk 0 ?_
    refine tk 1 ?_
    refine tk 2 ?_
    refine tk 3 ?_
    refine tk 4 ?_
    refine tk 5 ?_
    refine tk 6 ?_
    refine tk 7 ?_
    refine tk 8 ?_
    refine tk 9 ?_
    refine tk 10 ?_
    refine tk 11 ?_
    refine tk 12 ?_
    refine tk 13 ?_
    refine tk 14 ?_
    obtain ⟨X0, hX0⟩ : ∃ u, u = w3.drew := ⟨_, rfl⟩
    rw [← hX0]
    rw [← hX0] at HX0 HO0
    have c0 : X0.cell? ⟨b, off + p * 3, none⟩ = some (.int .i64 x0) := by rw [hX0]; exact c0
    have c1 : X0.cell? ⟨b, off + p * 3 + 1, none⟩ = some (.int .i64 x1) := by rw [hX0]; exact c1
    have c2 : X0.cell? ⟨b, off + p * 3 + 2, none⟩ = some (.int .i64 x2) := by rw [hX0]; exact c2
    have d0 : X0.cell? ⟨b, off + (p + 1) * 3, none⟩ = some (.int .i64 y0) := by rw [hX0]; exact d0
    have d1 : X0.cell? ⟨b, off + (p + 1) * 3 + 1, none⟩ = some (.int .i64 y1) := by rw [hX0]; exact d1
    have d2 : X0.cell? ⟨b, off + (p + 1) * 3 + 2, none⟩ = some (.int .i64 y2) := by rw [hX0]; exact d2
    clear hX0 HW3
    obtain ⟨t0, ht0⟩ : ∃ u, ((flStep xs).map (Value.int .i64))[p * 3]? = some u := ⟨_, List.getElem?_eq_getElem (by first | (simp only [List.length_set]; rw [HL3.out]; omega) | (rw [HL3.out]; omega))⟩
    have q0 : X0.cell? ⟨g, p * 3, none⟩ = some t0 := (HO0.out.cellAt _ (by omega)).trans ht0
    have p0 : X0.frozen? ⟨g, p * 3, none⟩ = false := HO0.out.frozenAt _
    obtain ⟨t1, ht1⟩ : ∃ u, ((flStep xs).map (Value.int .i64))[p * 3 + 1]? = some u := ⟨_, List.getElem?_eq_getElem (by first | (simp only [List.length_set]; rw [HL3.out]; omega) | (rw [HL3.out]; omega))⟩
    have q1 : X0.cell? ⟨g, p * 3 + 1, none⟩ = some t1 := (HO0.out.cellAt _ (by omega)).trans ht1
    have p1 : X0.frozen? ⟨g, p * 3 + 1, none⟩ = false := HO0.out.frozenAt _
    obtain ⟨t2, ht2⟩ : ∃ u, ((flStep xs).map (Value.int .i64))[p * 3 + 2]? = some u := ⟨_, List.getElem?_eq_getElem (by first | (simp only [List.length_set]; rw [HL3.out]; omega) | (rw [HL3.out]; omega))⟩
    have q2 : X0.cell? ⟨g, p * 3 + 2, none⟩ = some t2 := (HO0.out.cellAt _ (by omega)).trans ht2
    have p2 : X0.frozen? ⟨g, p * 3 + 2, none⟩ = false := HO0.out.frozenAt _
    obtain ⟨X1, hX1⟩ : ∃ u, u = (((X0.setCell ⟨g, p * 3, none⟩ (.int .i64 y0)).setCell ⟨g, p * 3 + 1, none⟩ (.int .i64 y1)).setCell ⟨g, p * 3 + 2, none⟩ (.int .i64 y2)) := ⟨_, rfl⟩
    have HO1a := Hid.mk ((HO0.out.stored (p * 3) (.int .i64 y0)).1.stored (p * 3 + 1) (.int .i64 y1)).1
    have HO1 := Hid.mk (HO1a.out.stored (p * 3 + 2) (.int .i64 y2)).1
    rw [← hX1] at HO1
    clear HO1a
    have HX1 : Hid (Below w.heap.size w X1) := Hid.mk (by rw [hX1]; exact (((HX0.out.setCell (p := ⟨g, p * 3, none⟩) hwg _).setCell (p := ⟨g, p * 3 + 1, none⟩) hwg _).setCell (p := ⟨g, p * 3 + 2, none⟩) hwg _))
    have c0 : X1.cell? ⟨b, off + p * 3, none⟩ = some (.int .i64 x0) := by rw [hX1]; exact keep_far (keep_far (keep_far c0 hbg) hbg) hbg
    have c1 : X1.cell? ⟨b, off + p * 3 + 1, none⟩ = some (.int .i64 x1) := by rw [hX1]; exact keep_far (keep_far (keep_far c1 hbg) hbg) hbg
    have c2 : X1.cell? ⟨b, off + p * 3 + 2, none⟩ = some (.int .i64 x2) := by rw [hX1]; exact keep_far (keep_far (keep_far c2 hbg) hbg) hbg
    have d0 : X1.cell? ⟨b, off + (p + 1) * 3, none⟩ = some (.int .i64 y0) := by rw [hX1]; exact keep_far (keep_far (keep_far d0 hbg) hbg) hbg
    have d1 : X1.cell? ⟨b, off + (p + 1) * 3 + 1, none⟩ = some (.int .i64 y1) := by rw [hX1]; exact keep_far (keep_far (keep_far d1 hbg) hbg) hbg
    have d2 : X1.cell? ⟨b, off + (p + 1) * 3 + 2, none⟩ = some (.int .i64 y2) := by rw [hX1]; exact keep_far (keep_far (keep_far d2 hbg) hbg) hbg
    refine tr 15 (fun K hK => ?_)
    go_simp
    rw [← hX1]
    clear hX1
    (try go_wp2_with fail)
    refine hK.out _ _ ?_ (fun hHeld' => ?_)
    · (try dsimp only)
      exact ⟨c0, c1, c2, d0, d1, d2⟩
    clear hK K hHeld
    have hHeld := hHeld'
    clear hHeld'
    (try simp only [Act.put, List.setIfInBounds_toArray, List.set_cons_zero, List.set_cons_succ])
    clear ht0 q0 p0 ht1 q1 p1 ht2 q2 p2
    refine tk 16 ?_
    obtain ⟨t0, ht0⟩ : ∃ u, (((((flStep xs).map (Value.int .i64)).set (p * 3) (.int .i64 y0)).set (p * 3 + 1) (.int .i64 y1)).set (p * 3 + 2) (.int .i64 y2))[(p + 1) * 3]? = some u := ⟨_, List.getElem?_eq_getElem (by first | (simp only [List.length_set]; rw [HL3.out]; omega) | (rw [HL3.out]; omega))⟩
    have q0 : X1.cell? ⟨g, (p + 1) * 3, none⟩ = some t0 := (HO1.out.cellAt _ (by omega)).trans ht0
    have p0 : X1.frozen? ⟨g, (p + 1) * 3, none⟩ = false := HO1.out.frozenAt _
    obtain ⟨t1, ht1⟩ : ∃ u, (((((flStep xs).map (Value.int .i64)).set (p * 3) (.int .i64 y0)).set (p * 3 + 1) (.int .i64 y1)).set (p * 3 + 2) (.int .i64 y2))[(p + 1) * 3 + 1]? = some u := ⟨_, List.getElem?_eq_getElem (by first | (simp only [List.length_set]; rw [HL3.out]; omega) | (rw [HL3.out]; omega))⟩
    have q1 : X1.cell? ⟨g, (p + 1) * 3 + 1, none⟩ = some t1 := (HO1.out.cellAt _ (by omega)).trans ht1
    have p1 : X1.frozen? ⟨g, (p + 1) * 3 + 1, none⟩ = false := HO1.out.frozenAt _
    obtain ⟨t2, ht2⟩ : ∃ u, (((((flStep xs).map (Value.int .i64)).set (p * 3) (.int .i64 y0)).set (p * 3 + 1) (.int .i64 y1)).set (p * 3 + 2) (.int .i64 y2))[(p + 1) * 3 + 2]? = some u := ⟨_, List.getElem?_eq_getElem (by first | (simp only [List.length_set]; rw [HL3.out]; omega) | (rw [HL3.out]; omega))⟩
    have q2 : X1.cell? ⟨g, (p + 1) * 3 + 2, none⟩ = some t2 := (HO1.out.cellAt _ (by omega)).trans ht2
    have p2 : X1.frozen? ⟨g, (p + 1) * 3 + 2, none⟩ = false := HO1.out.frozenAt _
    obtain ⟨X2, hX2⟩ : ∃ u, u = (((X1.setCell ⟨g, (p + 1) * 3, none⟩ (.int .i64 x0)).setCell ⟨g, (p + 1) * 3 + 1, none⟩ (.int .i64 x1)).setCell ⟨g, (p + 1) * 3 + 2, none⟩ (.int .i64 x2)) := ⟨_, rfl⟩
    have HO2a := Hid.mk ((HO1.out.stored ((p + 1) * 3) (.int .i64 x0)).1.stored ((p + 1) * 3 + 1) (.int .i64 x1)).1
    have HO2 := Hid.mk (HO2a.out.stored ((p + 1) * 3 + 2) (.int .i64 x2)).1
    rw [← hX2] at HO2
    clear HO2a
    have HX2 : Hid (Below w.heap.size w X2) := Hid.mk (by rw [hX2]; exact (((HX1.out.setCell (p := ⟨g, (p + 1) * 3, none⟩) hwg _).setCell (p := ⟨g, (p + 1) * 3 + 1, none⟩) hwg _).setCell (p := ⟨g, (p + 1) * 3 + 2, none⟩) hwg _))
    have c0 : X2.cell? ⟨b, off + p * 3, none⟩ = some (.int .i64 x0) := by rw [hX2]; exact keep_far (keep_far (keep_far c0 hbg) hbg) hbg
    have c1 : X2.cell? ⟨b, off + p * 3 + 1, none⟩ = some (.int .i64 x1) := by rw [hX2]; exact keep_far (keep_far (keep_far c1 hbg) hbg) hbg
    have c2 : X2.cell? ⟨b, off + p * 3 + 2, none⟩ = some (.int .i64 x2) := by rw [hX2]; exact keep_far (keep_far (keep_far c2 hbg) hbg) hbg
    have d0 : X2.cell? ⟨b, off + (p + 1) * 3, none⟩ = some (.int .i64 y0) := by rw [hX2]; exact keep_far (keep_far (keep_far d0 hbg) hbg) hbg
    have d1 : X2.cell? ⟨b, off + (p + 1) * 3 + 1, none⟩ = some (.int .i64 y1) := by rw [hX2]; exact keep_far (keep_far (keep_far d1 hbg) hbg) hbg
    have d2 : X2.cell? ⟨b, off + (p + 1) * 3 + 2, none⟩ = some (.int .i64 y2) := by rw [hX2]; exact keep_far (keep_far (keep_far d2 hbg) hbg) hbg
    refine tr 17 (fun K hK => ?_)
    go_simp
    rw [← hX2]
    clear hX2
    (try go_wp2_with fail)
    refine hK.out _ _ ?_ (fun hHeld' => ?_)
    · (try dsimp only)
      exact ⟨c0, c1, c2, d0, d1, d2⟩
    clear hK K hHeld
    have hHeld := hHeld'
    clear hHeld'
    (try simp only [Act.put, List.setIfInBounds_toArray, List.set_cons_zero, List.set_cons_succ])
    clear ht0 q0 p0 ht1 q1 p1 ht2 q2 p2
    refine wpAnyH_done (by kernel_rfl) ?_ _
    clear hHeld
    have HR : Hid (X2.ownsRow w.heap.size 36 3 (.slice (some ⟨g, 0, none⟩) n d) n ((flStep (swL xs (p : Int))).map (.int .i64))) := Hid.mk (by
      rw [HL.out, ← swap_set HX.out HY.out, flStep_set _ (p + 1) _ (by rw [List.length_set, HZ.out]; omega), flStep_set _ p _ (by rw [HZ.out]; omega)]
      exact HO2.out)
    have HLN : Hid ((swL xs (p : Int)).length = n) := Hid.mk (by rw [HL.out, ← swap_set HX.out HY.out, List.length_set, List.length_set]; exact HZ.out)
    have HFIN : Hid (StepsRet (.returned (.tuple #[.slice (some ⟨g, 0, none⟩) n d, .bool true])) X2 w.heap.size (swB xs (p : Int)) (swL xs (p : Int))) := Hid.mk ⟨_, _, _, by rw [HV2.out], HLN.out, HR.out⟩
    clear HR HLN HO0 HO1 HO2 HX0 HX1 c0 c1 c2 d0 d1 d2
    go_wp2
    refine bodyPost_ret (v := .tuple #[.slice (some ⟨g, 0, none⟩) n d, .bool true]) (by simp [results, Try.results8, go_sem]) rfl ⟨HFIN.out, HX2.out⟩

end Go.Proofs.Ytociphdhkjoofab
