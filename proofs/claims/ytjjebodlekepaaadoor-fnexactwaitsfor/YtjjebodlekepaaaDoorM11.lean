/- Contracts of impl.haveLeft, impl.GoodLocks. -/
import Derived.Test.YtjjebodlekepaaaDoorM8
import Derived.Test.YtjjebodlekepaaaDoorM9
import Derived.Test.YtjjebodlekepaaaDoorM10
namespace Go.Proofs.YtjjebodlekepaaaDoor
open Go.RowKit

set_option maxRecDepth 100000 in
set_option maxHeartbeats 2000000 in
theorem haveLeft_any (a : Option Addr) (n c : Nat) (zs : List Int) (B : Nat) (w : World) (hz : zs.length = n) (hn : n ≤ 9223372036854775807) (hB : B < 64) (ha : At w a zs) (ht : TabB w) :
    Calls Tryd.prog 38 #[.slice a n c, .int .u64 (B : Nat)] w fun e w' => e = .returned (.bool (leftB zs B)) ∧ Below w.heap.size w w' := by
  have KN := Hid.mk (noTxns_any a n c zs w hz hn ha)
  have HT := Hid.mk ht
  have HA := Hid.mk ha
  have HZ := Hid.mk hz
  clear ht ha hz
  cases hi : inB6 zs with
  | false =>
    rw [show zs.all tOk = false from hi] at KN
    have HF : Hid (leftB zs B = false) := Hid.mk (by unfold leftB; rw [hi]; rfl)
    go_enter Tryd.func38, Tryd.ntmps38
    go_wp2_with fail
    refine KN.out.mono ?_
    rintro e w1 ⟨rfl, hw1⟩
    obtain rfl := hw1.symm
    go_wp2
    go_ret
    exact ⟨ret_bool (by rw [HF.out]), Below.refl _ _⟩
  | true =>
    rw [show zs.all tOk = true from hi] at KN
    have hin := inB6_iff.1 hi
    have KS := Hid.mk (setOf_any a n c zs w HZ.out hn hin HA.out)
    have hm : mk zs < 64 := mk_lt6 hin
    obtain ⟨M, hM⟩ : ∃ M, mk zs = M := ⟨_, rfl⟩
    have HF : Hid (leftB zs B = (decide ((bl M).length = n) && decide (M &&& B = 0))) := Hid.mk (by unfold leftB; rw [hi, hM, HZ.out]; rfl)
    rw [hM] at KS hm
    have KL := Hid.mk (list_any M w hm HT.out)
    obtain ⟨Q, hQ⟩ : ∃ Q, (bl M).length = Q := ⟨_, rfl⟩
    rw [hQ] at HF KL
    have hand : bits .and .u64 (M : Int) (B : Int) = ((M &&& B : Nat) : Int) := u64_and_nat _ _ (by omega) (by omega)
    obtain ⟨D, hD⟩ : ∃ D, M &&& B = D := ⟨_, rfl⟩
    rw [hD] at HF hand
    clear hi hM hQ hD
    go_enter Tryd.func38, Tryd.ntmps38
    go_wp2_with fail
    refine KN.out.mono ?_
    rintro e w1 ⟨rfl, hw1⟩
    obtain rfl := hw1.symm
    clear KN
    go_wp2_with fail
    refine KS.out.mono ?_
    rintro e w1 ⟨rfl, hw1⟩
    obtain rfl := hw1.symm
    clear KS
    by_cases hq : Q = n
    · have hqi : ((Q : Int) == (n : Int)) = true := beq_iff_eq.2 (by omega)
      by_cases hd : D = 0
      · have hdi : ((D : Int) == 0) = true := beq_iff_eq.2 (by omega)
        have HF2 : Hid (leftB zs B = true) := Hid.mk (by rw [HF.out, decide_eq_true hq, decide_eq_true hd]; rfl)
        clear hq hd
        go_wp2_with fail
        refine KL.out.mono ?_
        rintro e w2 ⟨r, m, d, rfl, hm2, ho2, hb2⟩
        obtain rfl : m = Q := hm2.symm
        clear KL ho2
        go_wp2
        go_ret
        exact ⟨ret_bool (by rw [HF2.out]), hb2⟩
      · have hdi : ((D : Int) == 0) = false := beq_eq_false_iff_ne.2 (by omega)
        have HF2 : Hid (leftB zs B = false) := Hid.mk (by rw [HF.out, decide_eq_false hd, Bool.and_false])
        clear hq hd
        go_wp2_with fail
        refine KL.out.mono ?_
        rintro e w2 ⟨r, m, d, rfl, hm2, ho2, hb2⟩
        obtain rfl : m = Q := hm2.symm
        clear KL ho2
        go_wp2
        go_ret
        exact ⟨ret_bool (by rw [HF2.out]), hb2⟩
    · have hqi : ((Q : Int) == (n : Int)) = false := beq_eq_false_iff_ne.2 (by omega)
      have HF2 : Hid (leftB zs B = false) := Hid.mk (by rw [HF.out, decide_eq_false hq]; rfl)
      clear hq
      go_wp2_with fail
      refine KL.out.mono ?_
      rintro e w2 ⟨r, m, d, rfl, hm2, ho2, hb2⟩
      obtain rfl : m = Q := hm2.symm
      clear KL ho2
      go_wp2
      go_ret
      exact ⟨ret_bool (by rw [HF2.out]), hb2⟩

set_option maxRecDepth 100000 in
set_option maxHeartbeats 8000000 in
theorem implGoodLocks (a0 : Option Addr) (a1 : Option Addr) (a2 : Option Addr) (a3 : Option Addr) (a4 : Option Addr) (n0 c0 n1 c1 n2 c2 n3 c3 n4 c4 : Nat) (x0 x1 x2 : List TStep) (x3 x4 : List Int) (w : World) (hz0 : x0.length = n0) (hs0 : n0 ≤ 1048576) (hc0 : n0 ≤ c0) (_hF0 : a0 = none → c0 = 0) (ha0 : At w a0 (flStep x0)) (hz1 : x1.length = n1) (hs1 : n1 ≤ 1048576) (_hc1 : n1 ≤ c1) (hF1 : a1 = none → c1 = 0) (ha1 : At w a1 (flStep x1)) (hz2 : x2.length = n2) (hs2 : n2 ≤ 1048576) (_hc2 : n2 ≤ c2) (hF2 : a2 = none → c2 = 0) (ha2 : At w a2 (flStep x2)) (hz3 : x3.length = n3) (hs3 : n3 ≤ 1048576) (_hc3 : n3 ≤ c3) (hF3 : a3 = none → c3 = 0) (ha3 : At w a3 x3) (hz4 : x4.length = n4) (hs4 : n4 ≤ 1048576) (_hc4 : n4 ≤ c4) (hF4 : a4 = none → c4 = 0) (ha4 : At w a4 x4) (ht : TabB w) :
    Calls Tryd.prog 10 #[.agg #[.slice a0 n0 c0, .slice a1 n1 c1, .slice a2 n2 c2, .slice a3 n3 c3, .slice a4 n4 c4]] w fun e w' => e = .returned (.bool (glB (x0, x1, x2, x3, x4))) ∧ Below w.heap.size w w' := by
  rw [← gl_same]
  obtain ⟨W, hW⟩ : ∃ W, W = w.alloc (.cells #[.slice a0 n0 c0, .slice a1 n1 c1, .slice a2 n2 c2, .slice a3 n3 c3, .slice a4 n4 c4] 30) := ⟨_, rfl⟩
  have B0 : Below w.heap.size w W := by rw [hW]; exact (Below.refl _ _).alloc (Nat.le_refl _) _
  have p0 : W.cell? ⟨w.heap.size, 0, none⟩ = some (.slice a0 n0 c0) := by rw [hW]; simp
  have p1 : W.cell? ⟨w.heap.size, 1, none⟩ = some (.slice a1 n1 c1) := by rw [hW]; simp
  have p2 : W.cell? ⟨w.heap.size, 2, none⟩ = some (.slice a2 n2 c2) := by rw [hW]; simp
  have p3 : W.cell? ⟨w.heap.size, 3, none⟩ = some (.slice a3 n3 c3) := by rw [hW]; simp
  have p4 : W.cell? ⟨w.heap.size, 4, none⟩ = some (.slice a4 n4 c4) := by rw [hW]; simp
  have KA : Hid (∀ w' : World, Below W.heap.size W w' → Calls Tryd.prog 33 #[.slice a0 n0 c0] w' fun e w'' => e = .returned (.bool (gpB x0 && heldB x0)) ∧ Below w'.heap.size w' w'') := Hid.mk (fun w' hw' => areLocks_any a0 n0 c0 x0 w' hz0 (by omega) hc0 (At.below (At.below ha0 B0) hw'))
  have HB0 : Hid (Below W.heap.size W W) := Hid.mk (Below.refl _ _)
  have HBW := Hid.mk B0
  have HA0 := Hid.mk (At.below ha0 HBW.out)
  have HZ0 := Hid.mk hz0
  clear ha0 hz0
  have HA1 := Hid.mk (At.below ha1 HBW.out)
  have HZ1 := Hid.mk hz1
  clear ha1 hz1
  have HA2 := Hid.mk (At.below ha2 HBW.out)
  have HZ2 := Hid.mk hz2
  clear ha2 hz2
  have HA3 := Hid.mk (At.below ha3 HBW.out)
  have HZ3 := Hid.mk hz3
  clear ha3 hz3
  have HA4 := Hid.mk (At.below ha4 HBW.out)
  have HZ4 := Hid.mk hz4
  clear ha4 hz4
  have HL2 : Hid ((flStep x2).length = n2 * 3) := Hid.mk (by rw [flStep_len, HZ2.out])
  have HL1 : Hid ((flStep x1).length = n1 * 3) := Hid.mk (by rw [flStep_len, HZ1.out])
  have HL21 : Hid ((x2 ++ x1).length = n2 + n1) := Hid.mk (by rw [List.length_append, HZ2.out, HZ1.out])
  have HL34 : Hid ((x3 ++ x4).length = n3 + n4) := Hid.mk (by rw [List.length_append, HZ3.out, HZ4.out])
  have HTAB := Hid.mk (TabIs.below ht B0)
  clear B0 ht
  have HDEF : Hid (glI (x0, x1, x2, x3, x4) = (gpB x0 && heldB x0 && (gpB (x2 ++ x1) && (decide ((bl (txS x1)).length = x1.length) && leftB (x3 ++ x4) (txS x0 ||| txS x1))))) := Hid.mk rfl
  cases h1 : gpB x0 && heldB x0 with
  | false =>
    have HFIN : Hid (glI (x0, x1, x2, x3, x4) = false) := Hid.mk (by rw [HDEF.out, h1]; rfl)
    rw [h1] at KA
    clear h1
    go_enter Tryd.func10, Tryd.ntmps10
    go_upto_region 1 with fail
    rw [← hW]
    clear hW
    refine wp_region_held_drew (S := fun w' => w'.cell? ⟨w.heap.size, 0, none⟩ = some (.slice a0 n0 c0) ∧ w'.cell? ⟨w.heap.size, 1, none⟩ = some (.slice a1 n1 c1) ∧ w'.cell? ⟨w.heap.size, 2, none⟩ = some (.slice a2 n2 c2) ∧ w'.cell? ⟨w.heap.size, 3, none⟩ = some (.slice a3 n3 c3) ∧ w'.cell? ⟨w.heap.size, 4, none⟩ = some (.slice a4 n4 c4)) (by kernel_rfl) ?_ (fun hHeld => ?_)
    · (try dsimp only)
      exact ⟨p0, p1, p2, p3, p4⟩
    refine tk 0 ?_
    refine tk 1 ?_
    refine tr 2 (fun K hK => ?_)
    go_simp
    go_at_call 33
    refine (KA.out _ (Below.refl _ _).drew).mono ?_
    rintro e w1 ⟨rfl, hb1⟩
    have hbd : Below W.heap.size W w1 := (Below.refl _ _).drew.trans hb1
    have p0 := cell_later hbd p0
    have p1 := cell_later hbd p1
    have p2 := cell_later hbd p2
    have p3 := cell_later hbd p3
    have p4 := cell_later hbd p4
    have HB1 := Hid.mk (HB0.out.trans (hbd.mono HB0.out.size))
    
    clear hbd
    (try go_wp2_with fail)
    refine hK.out _ _ ?_ (fun hHeld' => ?_)
    · (try dsimp only)
      exact ⟨p0, p1, p2, p3, p4⟩
    clear hK K hHeld
    have hHeld := hHeld'
    clear hHeld'
    (try simp only [Act.put, List.setIfInBounds_toArray, List.set_cons_zero, List.set_cons_succ])
    refine tk 3 ?_
    refine tu 4 ?_
    refine tu 5 ?_
    refine tu 6 ?_
    refine tu 7 ?_
    refine tu 8 ?_
    refine tu 9 ?_
    refine tu 10 ?_
    refine tk 11 ?_
    refine tk 12 ?_
    refine tu 13 ?_
    refine tu 14 ?_
    refine tu 15 ?_
    refine tu 16 ?_
    refine tu 17 ?_
    refine tu 18 ?_
    refine tu 19 ?_
    refine tu 20 ?_
    refine tu 21 ?_
    refine tk 22 ?_
    refine tk 23 ?_
    refine tu 24 ?_
    refine tu 25 ?_
    refine tu 26 ?_
    refine tu 27 ?_
    refine tu 28 ?_
    refine tu 29 ?_
    refine tu 30 ?_
    refine tu 31 ?_
    refine tu 32 ?_
    refine tu 33 ?_
    refine tu 34 ?_
    refine tu 35 ?_
    refine tu 36 ?_
    refine tu 37 ?_
    refine tk 38 ?_
    refine tk 39 ?_
    refine wpAnyH_done (by kernel_rfl) ?_ _
    go_wp2
    go_ret
    exact ⟨ret_bool (by rw [HFIN.out]), HBW.out.trans (HB1.out.mono HBW.out.size)⟩
  | true =>
    rw [h1] at KA
    cases h2 : gpB (x2 ++ x1) with
    | false =>
      have HFIN : Hid (glI (x0, x1, x2, x3, x4) = false) := Hid.mk (by rw [HDEF.out, h1, h2]; rfl)
      have HQ2 := Hid.mk h2
      clear h1 h2
      go_enter Tryd.func10, Tryd.ntmps10
      go_upto_region 1 with fail
      rw [← hW]
      clear hW
      refine wp_region_held_drew (S := fun w' => w'.cell? ⟨w.heap.size, 0, none⟩ = some (.slice a0 n0 c0) ∧ w'.cell? ⟨w.heap.size, 1, none⟩ = some (.slice a1 n1 c1) ∧ w'.cell? ⟨w.heap.size, 2, none⟩ = some (.slice a2 n2 c2) ∧ w'.cell? ⟨w.heap.size, 3, none⟩ = some (.slice a3 n3 c3) ∧ w'.cell? ⟨w.heap.size, 4, none⟩ = some (.slice a4 n4 c4)) (by kernel_rfl) ?_ (fun hHeld => ?_)
      · (try dsimp only)
        exact ⟨p0, p1, p2, p3, p4⟩
      refine tk 0 ?_
      refine tk 1 ?_
      refine tr 2 (fun K hK => ?_)
      go_simp
      go_at_call 33
      refine (KA.out _ (Below.refl _ _).drew).mono ?_
      rintro e w1 ⟨rfl, hb1⟩
      have hbd : Below W.heap.size W w1 := (Below.refl _ _).drew.trans hb1
      have p0 := cell_later hbd p0
      have p1 := cell_later hbd p1
      have p2 := cell_later hbd p2
      have p3 := cell_later hbd p3
      have p4 := cell_later hbd p4
      have HB1 := Hid.mk (HB0.out.trans (hbd.mono HB0.out.size))
      
      clear hbd
      (try go_wp2_with fail)
      refine hK.out _ _ ?_ (fun hHeld' => ?_)
      · (try dsimp only)
        exact ⟨p0, p1, p2, p3, p4⟩
      clear hK K hHeld
      have hHeld := hHeld'
      clear hHeld'
      (try simp only [Act.put, List.setIfInBounds_toArray, List.set_cons_zero, List.set_cons_succ])
      refine tk 3 ?_
      refine tk 4 ?_
      refine tk 5 ?_
      refine tk 6 ?_
      refine tk 7 ?_
      refine wpAnyH_ready (rs := [8]) (by kernel_rfl) (by simp) ?_
      refine AllReadyH.cons (o := ?_) ?_ (fun K hK => ?_) AllReadyH.nil
      rotate_left
      · (simp only [List.getElem?_toArray, List.getElem?_cons_zero, List.getElem?_cons_succ]; rfl)
      go_simp
      (try go_wp2_with fail)
      refine hK.out _ _ ?_ (fun hHeld' => ?_)
      · (try dsimp only)
        exact ⟨cell_later ((Below.refl _ _).alloc (Nat.le_refl _) _) p0, cell_later ((Below.refl _ _).alloc (Nat.le_refl _) _) p1, cell_later ((Below.refl _ _).alloc (Nat.le_refl _) _) p2, cell_later ((Below.refl _ _).alloc (Nat.le_refl _) _) p3, cell_later ((Below.refl _ _).alloc (Nat.le_refl _) _) p4⟩
      clear hK K hHeld
      have hHeld := hHeld'
      clear hHeld'
      (try simp only [Act.put, List.setIfInBounds_toArray, List.set_cons_zero, List.set_cons_succ])
      obtain ⟨X1, hX1⟩ : ∃ u, u = w1.alloc (.cells #[.slice a2 n2 c2, .slice a1 n1 c1] 28) := ⟨_, rfl⟩
      have e0 : X1.cell? ⟨w1.heap.size, 0, none⟩ = some (.slice a2 n2 c2) := by rw [hX1]; exact news_at w1 _ _ 0 _ rfl
      have e1 : X1.cell? ⟨w1.heap.size, 1, none⟩ = some (.slice a1 n1 c1) := by rw [hX1]; exact news_at w1 _ _ 1 _ rfl
      have hbd : Below w1.heap.size w1 X1 := by rw [hX1]; exact ((Below.refl _ _).alloc (Nat.le_refl _) _)
      have p0 := cell_later hbd p0
      have p1 := cell_later hbd p1
      have p2 := cell_later hbd p2
      have p3 := cell_later hbd p3
      have p4 := cell_later hbd p4
      have HX1 := Hid.mk (HB1.out.trans (hbd.mono HB1.out.size))
      rw [← hX1]
      clear hX1 hbd
      refine tr 9 (fun K hK => ?_)
      go_simp
      go_at_call 35
      refine (concatStep_any w1.heap.size a2 a1 n2 n1 c2 c1 (flStep x2) (flStep x1) X1 hs2 hs1 HL2.out HL1.out (At.below HA2.out HX1.out) (At.below HA1.out HX1.out) hF2 hF1 e0 e1).mono ?_
      rintro e w2 ⟨r2, d2, rfl, ho2, hb2⟩
      have hbd : Below X1.heap.size X1 w2 := hb2
      have p0 := cell_later hbd p0
      have p1 := cell_later hbd p1
      have p2 := cell_later hbd p2
      have p3 := cell_later hbd p3
      have p4 := cell_later hbd p4
      have HB2 := Hid.mk (HX1.out.trans (hbd.mono HX1.out.size))
      have HO2 : Hid (At w2 r2 (flStep (x2 ++ x1))) := Hid.mk (by rw [show flStep (x2 ++ x1) = flStep x2 ++ flStep x1 by simp [flatF]]; exact At.ownedK ho2)
      clear ho2 e0 e1
      clear hbd
      (try go_wp2_with fail)
      refine hK.out _ _ ?_ (fun hHeld' => ?_)
      · (try dsimp only)
        exact ⟨p0, p1, p2, p3, p4⟩
      clear hK K hHeld
      have hHeld := hHeld'
      clear hHeld'
      (try simp only [Act.put, List.setIfInBounds_toArray, List.set_cons_zero, List.set_cons_succ])
      refine tr 10 (fun K hK => ?_)
      go_simp
      go_at_call 34
      refine (implGoodSteps r2 (n2 + n1) d2 (x2 ++ x1) w2 HL21.out (by omega) HO2.out).mono ?_
      rintro e w3 ⟨rfl, hb3⟩
      have hbd : Below w2.heap.size w2 w3 := hb3
      have p0 := cell_later hbd p0
      have p1 := cell_later hbd p1
      have p2 := cell_later hbd p2
      have p3 := cell_later hbd p3
      have p4 := cell_later hbd p4
      have HB3 := Hid.mk (HB2.out.trans (hbd.mono HB2.out.size))
      rw [HQ2.out]
      clear hbd
      (try go_wp2_with fail)
      refine hK.out _ _ ?_ (fun hHeld' => ?_)
      · (try dsimp only)
        exact ⟨p0, p1, p2, p3, p4⟩
      clear hK K hHeld
      have hHeld := hHeld'
      clear hHeld'
      (try simp only [Act.put, List.setIfInBounds_toArray, List.set_cons_zero, List.set_cons_succ])
      refine tk 11 ?_
      refine tk 12 ?_
      refine tu 13 ?_
      refine tu 14 ?_
      refine tu 15 ?_
      refine tu 16 ?_
      refine tu 17 ?_
      refine tu 18 ?_
      refine tu 19 ?_
      refine tu 20 ?_
      refine tu 21 ?_
      refine tk 22 ?_
      refine tk 23 ?_
      refine tu 24 ?_
      refine tu 25 ?_
      refine tu 26 ?_
      refine tu 27 ?_
      refine tu 28 ?_
      refine tu 29 ?_
      refine tu 30 ?_
      refine tu 31 ?_
      refine tu 32 ?_
      refine tu 33 ?_
      refine tu 34 ?_
      refine tu 35 ?_
      refine tu 36 ?_
      refine tu 37 ?_
      refine tk 38 ?_
      refine tk 39 ?_
      refine wpAnyH_done (by kernel_rfl) ?_ _
      go_wp2
      go_ret
      exact ⟨ret_bool (by rw [HFIN.out]), HBW.out.trans (HB3.out.mono HBW.out.size)⟩
    | true =>
      have HG1 : Hid (gpB x1 = true) := Hid.mk (gp_app.1 h2).2.1
      have HT1 : Hid (txS x1 < 64) := Hid.mk (txS_lt fun y hy => (gp_txn HG1.out y hy).2)
      obtain ⟨Q, hQ⟩ : ∃ Q, (bl (txS x1)).length = Q := ⟨_, rfl⟩
      have HQ := Hid.mk hQ
      have HQ2 := Hid.mk h2
      by_cases h3 : Q = n1
      · have hqi : ((Q : Int) == (n1 : Int)) = true := beq_iff_eq.2 (by omega)
        have HG0 : Hid (gpB x0 = true) := Hid.mk (by rw [Bool.and_eq_true] at h1; exact h1.1)
        have HT0 : Hid (txS x0 < 64) := Hid.mk (txS_lt fun y hy => (gp_txn HG0.out y hy).2)
        cases h4 : leftB (x3 ++ x4) (txS x0 ||| txS x1) with
        | false =>
          have HFIN : Hid (glI (x0, x1, x2, x3, x4) = false) := Hid.mk (by rw [HDEF.out, h4]; simp)
          have HQ9 := Hid.mk h4
          clear h1 h2 h3 h4 hQ
          go_enter Tryd.func10, Tryd.ntmps10
          go_upto_region 1 with fail
          rw [← hW]
          clear hW
          refine wp_region_held_drew (S := fun w' => w'.cell? ⟨w.heap.size, 0, none⟩ = some (.slice a0 n0 c0) ∧ w'.cell? ⟨w.heap.size, 1, none⟩ = some (.slice a1 n1 c1) ∧ w'.cell? ⟨w.heap.size, 2, none⟩ = some (.slice a2 n2 c2) ∧ w'.cell? ⟨w.heap.size, 3, none⟩ = some (.slice a3 n3 c3) ∧ w'.cell? ⟨w.heap.size, 4, none⟩ = some (.slice a4 n4 c4)) (by kernel_rfl) ?_ (fun hHeld => ?_)
          · (try dsimp only)
            exact ⟨p0, p1, p2, p3, p4⟩
          refine tk 0 ?_
          refine tk 1 ?_
          refine tr 2 (fun K hK => ?_)
          go_simp
          go_at_call 33
          refine (KA.out _ (Below.refl _ _).drew).mono ?_
          rintro e w1 ⟨rfl, hb1⟩
          have hbd : Below W.heap.size W w1 := (Below.refl _ _).drew.trans hb1
          have p0 := cell_later hbd p0
          have p1 := cell_later hbd p1
          have p2 := cell_later hbd p2
          have p3 := cell_later hbd p3
          have p4 := cell_later hbd p4
          have HB1 := Hid.mk (HB0.out.trans (hbd.mono HB0.out.size))
          
          clear hbd
          (try go_wp2_with fail)
          refine hK.out _ _ ?_ (fun hHeld' => ?_)
          · (try dsimp only)
            exact ⟨p0, p1, p2, p3, p4⟩
          clear hK K hHeld
          have hHeld := hHeld'
          clear hHeld'
          (try simp only [Act.put, List.setIfInBounds_toArray, List.set_cons_zero, List.set_cons_succ])
          refine tk 3 ?_
          refine tk 4 ?_
          refine tk 5 ?_
          refine tk 6 ?_
          refine tk 7 ?_
          refine wpAnyH_ready (rs := [8]) (by kernel_rfl) (by simp) ?_
          refine AllReadyH.cons (o := ?_) ?_ (fun K hK => ?_) AllReadyH.nil
          rotate_left
          · (simp only [List.getElem?_toArray, List.getElem?_cons_zero, List.getElem?_cons_succ]; rfl)
          go_simp
          (try go_wp2_with fail)
          refine hK.out _ _ ?_ (fun hHeld' => ?_)
          · (try dsimp only)
            exact ⟨cell_later ((Below.refl _ _).alloc (Nat.le_refl _) _) p0, cell_later ((Below.refl _ _).alloc (Nat.le_refl _) _) p1, cell_later ((Below.refl _ _).alloc (Nat.le_refl _) _) p2, cell_later ((Below.refl _ _).alloc (Nat.le_refl _) _) p3, cell_later ((Below.refl _ _).alloc (Nat.le_refl _) _) p4⟩
          clear hK K hHeld
          have hHeld := hHeld'
          clear hHeld'
          (try simp only [Act.put, List.setIfInBounds_toArray, List.set_cons_zero, List.set_cons_succ])
          obtain ⟨X1, hX1⟩ : ∃ u, u = w1.alloc (.cells #[.slice a2 n2 c2, .slice a1 n1 c1] 28) := ⟨_, rfl⟩
          have e0 : X1.cell? ⟨w1.heap.size, 0, none⟩ = some (.slice a2 n2 c2) := by rw [hX1]; exact news_at w1 _ _ 0 _ rfl
          have e1 : X1.cell? ⟨w1.heap.size, 1, none⟩ = some (.slice a1 n1 c1) := by rw [hX1]; exact news_at w1 _ _ 1 _ rfl
          have hbd : Below w1.heap.size w1 X1 := by rw [hX1]; exact ((Below.refl _ _).alloc (Nat.le_refl _) _)
          have p0 := cell_later hbd p0
          have p1 := cell_later hbd p1
          have p2 := cell_later hbd p2
          have p3 := cell_later hbd p3
          have p4 := cell_later hbd p4
          have HX1 := Hid.mk (HB1.out.trans (hbd.mono HB1.out.size))
          rw [← hX1]
          clear hX1 hbd
          refine tr 9 (fun K hK => ?_)
          go_simp
          go_at_call 35
          refine (concatStep_any w1.heap.size a2 a1 n2 n1 c2 c1 (flStep x2) (flStep x1) X1 hs2 hs1 HL2.out HL1.out (At.below HA2.out HX1.out) (At.below HA1.out HX1.out) hF2 hF1 e0 e1).mono ?_
          rintro e w2 ⟨r2, d2, rfl, ho2, hb2⟩
          have hbd : Below X1.heap.size X1 w2 := hb2
          have p0 := cell_later hbd p0
          have p1 := cell_later hbd p1
          have p2 := cell_later hbd p2
          have p3 := cell_later hbd p3
          have p4 := cell_later hbd p4
          have HB2 := Hid.mk (HX1.out.trans (hbd.mono HX1.out.size))
          have HO2 : Hid (At w2 r2 (flStep (x2 ++ x1))) := Hid.mk (by rw [show flStep (x2 ++ x1) = flStep x2 ++ flStep x1 by simp [flatF]]; exact At.ownedK ho2)
          clear ho2 e0 e1
          clear hbd
          (try go_wp2_with fail)
          refine hK.out _ _ ?_ (fun hHeld' => ?_)
          · (try dsimp only)
            exact ⟨p0, p1, p2, p3, p4⟩
          clear hK K hHeld
          have hHeld := hHeld'
          clear hHeld'
          (try simp only [Act.put, List.setIfInBounds_toArray, List.set_cons_zero, List.set_cons_succ])
          refine tr 10 (fun K hK => ?_)
          go_simp
          go_at_call 34
          refine (implGoodSteps r2 (n2 + n1) d2 (x2 ++ x1) w2 HL21.out (by omega) HO2.out).mono ?_
          rintro e w3 ⟨rfl, hb3⟩
          have hbd : Below w2.heap.size w2 w3 := hb3
          have p0 := cell_later hbd p0
          have p1 := cell_later hbd p1
          have p2 := cell_later hbd p2
          have p3 := cell_later hbd p3
          have p4 := cell_later hbd p4
          have HB3 := Hid.mk (HB2.out.trans (hbd.mono HB2.out.size))
          rw [HQ2.out]
          clear hbd
          (try go_wp2_with fail)
          refine hK.out _ _ ?_ (fun hHeld' => ?_)
          · (try dsimp only)
            exact ⟨p0, p1, p2, p3, p4⟩
          clear hK K hHeld
          have hHeld := hHeld'
          clear hHeld'
          (try simp only [Act.put, List.setIfInBounds_toArray, List.set_cons_zero, List.set_cons_succ])
          refine tk 11 ?_
          refine tk 12 ?_
          refine tk 13 ?_
          refine tk 14 ?_
          refine tk 18 ?_
          refine tk 19 ?_
          refine tk 20 ?_
          refine tr 15 (fun K hK => ?_)
          go_simp
          go_at_call 36
          refine (txnsIn_any a1 n1 c1 x1 w3 HZ1.out HG1.out (At.below HA1.out HB3.out)).mono ?_
          rintro e w4 ⟨rfl, hb4⟩
          have hbd : Below w3.heap.size w3 w4 := hb4
          have p0 := cell_later hbd p0
          have p1 := cell_later hbd p1
          have p2 := cell_later hbd p2
          have p3 := cell_later hbd p3
          have p4 := cell_later hbd p4
          have HB4 := Hid.mk (HB3.out.trans (hbd.mono HB3.out.size))
          
          clear hbd
          (try go_wp2_with fail)
          refine hK.out _ _ ?_ (fun hHeld' => ?_)
          · (try dsimp only)
            exact ⟨p0, p1, p2, p3, p4⟩
          clear hK K hHeld
          have hHeld := hHeld'
          clear hHeld'
          (try simp only [Act.put, List.setIfInBounds_toArray, List.set_cons_zero, List.set_cons_succ])
          refine tr 16 (fun K hK => ?_)
          go_simp
          go_at_call 37
          refine (list_any (txS x1) w4 HT1.out (TabIs.below HTAB.out HB4.out)).mono ?_
          rintro e w5 ⟨r5, m5, d5, rfl, hm5, ho5, hb5⟩
          have hbd : Below w4.heap.size w4 w5 := hb5
          have p0 := cell_later hbd p0
          have p1 := cell_later hbd p1
          have p2 := cell_later hbd p2
          have p3 := cell_later hbd p3
          have p4 := cell_later hbd p4
          have HB5 := Hid.mk (HB4.out.trans (hbd.mono HB4.out.size))
          obtain rfl : m5 = Q := hm5.symm.trans HQ.out
          clear ho5 hm5
          clear hbd
          (try go_wp2_with fail)
          refine hK.out _ _ ?_ (fun hHeld' => ?_)
          · (try dsimp only)
            exact ⟨p0, p1, p2, p3, p4⟩
          clear hK K hHeld
          have hHeld := hHeld'
          clear hHeld'
          (try simp only [Act.put, List.setIfInBounds_toArray, List.set_cons_zero, List.set_cons_succ])
          refine tk 17 ?_
          refine tk 21 ?_
          refine tk 22 ?_
          refine tk 23 ?_
          refine tk 24 ?_
          refine tk 25 ?_
          refine tk 26 ?_
          refine tk 27 ?_
          refine tk 30 ?_
          refine tk 31 ?_
          refine tk 33 ?_
          refine tk 34 ?_
          refine wpAnyH_ready (rs := [28]) (by kernel_rfl) (by simp) ?_
          refine AllReadyH.cons (o := ?_) ?_ (fun K hK => ?_) AllReadyH.nil
          rotate_left
          · (simp only [List.getElem?_toArray, List.getElem?_cons_zero, List.getElem?_cons_succ]; rfl)
          go_simp
          (try go_wp2_with fail)
          refine hK.out _ _ ?_ (fun hHeld' => ?_)
          · (try dsimp only)
            exact ⟨cell_later ((Below.refl _ _).alloc (Nat.le_refl _) _) p0, cell_later ((Below.refl _ _).alloc (Nat.le_refl _) _) p1, cell_later ((Below.refl _ _).alloc (Nat.le_refl _) _) p2, cell_later ((Below.refl _ _).alloc (Nat.le_refl _) _) p3, cell_later ((Below.refl _ _).alloc (Nat.le_refl _) _) p4⟩
          clear hK K hHeld
          have hHeld := hHeld'
          clear hHeld'
          (try simp only [Act.put, List.setIfInBounds_toArray, List.set_cons_zero, List.set_cons_succ])
          obtain ⟨X5, hX5⟩ : ∃ u, u = w5.alloc (.cells #[.slice a3 n3 c3, .slice a4 n4 c4] 23) := ⟨_, rfl⟩
          have e0 : X5.cell? ⟨w5.heap.size, 0, none⟩ = some (.slice a3 n3 c3) := by rw [hX5]; exact news_at w5 _ _ 0 _ rfl
          have e1 : X5.cell? ⟨w5.heap.size, 1, none⟩ = some (.slice a4 n4 c4) := by rw [hX5]; exact news_at w5 _ _ 1 _ rfl
          have hbd : Below w5.heap.size w5 X5 := by rw [hX5]; exact ((Below.refl _ _).alloc (Nat.le_refl _) _)
          have p0 := cell_later hbd p0
          have p1 := cell_later hbd p1
          have p2 := cell_later hbd p2
          have p3 := cell_later hbd p3
          have p4 := cell_later hbd p4
          have HX5 := Hid.mk (HB5.out.trans (hbd.mono HB5.out.size))
          rw [← hX5]
          clear hX5 hbd
          refine tr 29 (fun K hK => ?_)
          go_simp
          go_at_call 39
          refine (concatI_any w5.heap.size a3 a4 n3 n4 c3 c4 x3 x4 X5 HZ3.out HZ4.out hs3 hs4 hF3 hF4 (At.below HA3.out HX5.out) (At.below HA4.out HX5.out) e0 e1).mono ?_
          rintro e w6 ⟨r6, d6, rfl, ho6, hb6⟩
          have hbd : Below X5.heap.size X5 w6 := hb6
          have p0 := cell_later hbd p0
          have p1 := cell_later hbd p1
          have p2 := cell_later hbd p2
          have p3 := cell_later hbd p3
          have p4 := cell_later hbd p4
          have HB6 := Hid.mk (HX5.out.trans (hbd.mono HX5.out.size))
          have HO6 := Hid.mk ho6
          clear ho6 e0 e1
          clear hbd
          (try go_wp2_with fail)
          refine hK.out _ _ ?_ (fun hHeld' => ?_)
          · (try dsimp only)
            exact ⟨p0, p1, p2, p3, p4⟩
          clear hK K hHeld
          have hHeld := hHeld'
          clear hHeld'
          (try simp only [Act.put, List.setIfInBounds_toArray, List.set_cons_zero, List.set_cons_succ])
          refine tr 32 (fun K hK => ?_)
          go_simp
          go_at_call 36
          refine (txnsIn_any a0 n0 c0 x0 w6 HZ0.out HG0.out (At.below HA0.out HB6.out)).mono ?_
          rintro e w7 ⟨rfl, hb7⟩
          have hbd : Below w6.heap.size w6 w7 := hb7
          have p0 := cell_later hbd p0
          have p1 := cell_later hbd p1
          have p2 := cell_later hbd p2
          have p3 := cell_later hbd p3
          have p4 := cell_later hbd p4
          have HB7 := Hid.mk (HB6.out.trans (hbd.mono HB6.out.size))
          have HO7 := Hid.mk (owns_below HO6.out hb7)
          clear HO6
          clear hbd
          (try go_wp2_with fail)
          refine hK.out _ _ ?_ (fun hHeld' => ?_)
          · (try dsimp only)
            exact ⟨p0, p1, p2, p3, p4⟩
          clear hK K hHeld
          have hHeld := hHeld'
          clear hHeld'
          (try simp only [Act.put, List.setIfInBounds_toArray, List.set_cons_zero, List.set_cons_succ])
          refine tr 35 (fun K hK => ?_)
          go_simp
          go_at_call 36
          refine (txnsIn_any a1 n1 c1 x1 w7 HZ1.out HG1.out (At.below HA1.out HB7.out)).mono ?_
          rintro e w8 ⟨rfl, hb8⟩
          have hbd : Below w7.heap.size w7 w8 := hb8
          have p0 := cell_later hbd p0
          have p1 := cell_later hbd p1
          have p2 := cell_later hbd p2
          have p3 := cell_later hbd p3
          have p4 := cell_later hbd p4
          have HB8 := Hid.mk (HB7.out.trans (hbd.mono HB7.out.size))
          have HO8 := Hid.mk (owns_below HO7.out hb8)
          clear HO7
          clear hbd
          (try go_wp2_with fail)
          refine hK.out _ _ ?_ (fun hHeld' => ?_)
          · (try dsimp only)
            exact ⟨p0, p1, p2, p3, p4⟩
          clear hK K hHeld
          have hHeld := hHeld'
          clear hHeld'
          (try simp only [Act.put, List.setIfInBounds_toArray, List.set_cons_zero, List.set_cons_succ])
          have hor : bits .or .u64 ((txS x0 : Nat) : Int) ((txS x1 : Nat) : Int) = ((txS x0 ||| txS x1 : Nat) : Int) := u64_or_nat _ _ (by have := HT0.out; omega) (by have := HT1.out; omega)
          refine tk 36 ?_
          refine tr 37 (fun K hK => ?_)
          go_simp
          go_at_call 38
          refine (haveLeft_any r6 (n3 + n4) d6 (x3 ++ x4) (txS x0 ||| txS x1) w8 HL34.out (by omega) (or_lt64 HT0.out HT1.out) (At.owned HO8.out) (TabIs.below HTAB.out HB8.out)).mono ?_
          rintro e w9 ⟨rfl, hb9⟩
          have hbd : Below w8.heap.size w8 w9 := hb9
          have p0 := cell_later hbd p0
          have p1 := cell_later hbd p1
          have p2 := cell_later hbd p2
          have p3 := cell_later hbd p3
          have p4 := cell_later hbd p4
          have HB9 := Hid.mk (HB8.out.trans (hbd.mono HB8.out.size))
          rw [HQ9.out]
          clear hbd
          (try go_wp2_with fail)
          refine hK.out _ _ ?_ (fun hHeld' => ?_)
          · (try dsimp only)
            exact ⟨p0, p1, p2, p3, p4⟩
          clear hK K hHeld
          have hHeld := hHeld'
          clear hHeld'
          (try simp only [Act.put, List.setIfInBounds_toArray, List.set_cons_zero, List.set_cons_succ])
          refine tk 38 ?_
          refine tk 39 ?_
          refine wpAnyH_done (by kernel_rfl) ?_ _
          go_wp2
          go_ret
          exact ⟨ret_bool (by rw [HFIN.out]), HBW.out.trans (HB9.out.mono HBW.out.size)⟩
        | true =>
          have HFIN : Hid (glI (x0, x1, x2, x3, x4) = true) := Hid.mk (by rw [HDEF.out, h1, h2, h4, hQ, HZ1.out, decide_eq_true h3]; rfl)
          have HQ9 := Hid.mk h4
          clear h1 h2 h3 h4 hQ
          go_enter Tryd.func10, Tryd.ntmps10
          go_upto_region 1 with fail
          rw [← hW]
          clear hW
          refine wp_region_held_drew (S := fun w' => w'.cell? ⟨w.heap.size, 0, none⟩ = some (.slice a0 n0 c0) ∧ w'.cell? ⟨w.heap.size, 1, none⟩ = some (.slice a1 n1 c1) ∧ w'.cell? ⟨w.heap.size, 2, none⟩ = some (.slice a2 n2 c2) ∧ w'.cell? ⟨w.heap.size, 3, none⟩ = some (.slice a3 n3 c3) ∧ w'.cell? ⟨w.heap.size, 4, none⟩ = some (.slice a4 n4 c4)) (by kernel_rfl) ?_ (fun hHeld => ?_)
          · (try dsimp only)
            exact ⟨p0, p1, p2, p3, p4⟩
          refine tk 0 ?_
          refine tk 1 ?_
          refine tr 2 (fun K hK => ?_)
          go_simp
          go_at_call 33
          refine (KA.out _ (Below.refl _ _).drew).mono ?_
          rintro e w1 ⟨rfl, hb1⟩
          have hbd : Below W.heap.size W w1 := (Below.refl _ _).drew.trans hb1
          have p0 := cell_later hbd p0
          have p1 := cell_later hbd p1
          have p2 := cell_later hbd p2
          have p3 := cell_later hbd p3
          have p4 := cell_later hbd p4
          have HB1 := Hid.mk (HB0.out.trans (hbd.mono HB0.out.size))
          
          clear hbd
          (try go_wp2_with fail)
          refine hK.out _ _ ?_ (fun hHeld' => ?_)
          · (try dsimp only)
            exact ⟨p0, p1, p2, p3, p4⟩
          clear hK K hHeld
          have hHeld := hHeld'
          clear hHeld'
          (try simp only [Act.put, List.setIfInBounds_toArray, List.set_cons_zero, List.set_cons_succ])
          refine tk 3 ?_
          refine tk 4 ?_
          refine tk 5 ?_
          refine tk 6 ?_
          refine tk 7 ?_
          refine wpAnyH_ready (rs := [8]) (by kernel_rfl) (by simp) ?_
          refine AllReadyH.cons (o := ?_) ?_ (fun K hK => ?_) AllReadyH.nil
          rotate_left
          · (simp only [List.getElem?_toArray, List.getElem?_cons_zero, List.getElem?_cons_succ]; rfl)
          go_simp
          (try go_wp2_with fail)
          refine hK.out _ _ ?_ (fun hHeld' => ?_)
          · (try dsimp only)
            exact ⟨cell_later ((Below.refl _ _).alloc (Nat.le_refl _) _) p0, cell_later ((Below.refl _ _).alloc (Nat.le_refl _) _) p1, cell_later ((Below.refl _ _).alloc (Nat.le_refl _) _) p2, cell_later ((Below.refl _ _).alloc (Nat.le_refl _) _) p3, cell_later ((Below.refl _ _).alloc (Nat.le_refl _) _) p4⟩
          clear hK K hHeld
          have hHeld := hHeld'
          clear hHeld'
          (try simp only [Act.put, List.setIfInBounds_toArray, List.set_cons_zero, List.set_cons_succ])
          obtain ⟨X1, hX1⟩ : ∃ u, u = w1.alloc (.cells #[.slice a2 n2 c2, .slice a1 n1 c1] 28) := ⟨_, rfl⟩
          have e0 : X1.cell? ⟨w1.heap.size, 0, none⟩ = some (.slice a2 n2 c2) := by rw [hX1]; exact news_at w1 _ _ 0 _ rfl
          have e1 : X1.cell? ⟨w1.heap.size, 1, none⟩ = some (.slice a1 n1 c1) := by rw [hX1]; exact news_at w1 _ _ 1 _ rfl
          have hbd : Below w1.heap.size w1 X1 := by rw [hX1]; exact ((Below.refl _ _).alloc (Nat.le_refl _) _)
          have p0 := cell_later hbd p0
          have p1 := cell_later hbd p1
          have p2 := cell_later hbd p2
          have p3 := cell_later hbd p3
          have p4 := cell_later hbd p4
          have HX1 := Hid.mk (HB1.out.trans (hbd.mono HB1.out.size))
          rw [← hX1]
          clear hX1 hbd
          refine tr 9 (fun K hK => ?_)
          go_simp
          go_at_call 35
          refine (concatStep_any w1.heap.size a2 a1 n2 n1 c2 c1 (flStep x2) (flStep x1) X1 hs2 hs1 HL2.out HL1.out (At.below HA2.out HX1.out) (At.below HA1.out HX1.out) hF2 hF1 e0 e1).mono ?_
          rintro e w2 ⟨r2, d2, rfl, ho2, hb2⟩
          have hbd : Below X1.heap.size X1 w2 := hb2
          have p0 := cell_later hbd p0
          have p1 := cell_later hbd p1
          have p2 := cell_later hbd p2
          have p3 := cell_later hbd p3
          have p4 := cell_later hbd p4
          have HB2 := Hid.mk (HX1.out.trans (hbd.mono HX1.out.size))
          have HO2 : Hid (At w2 r2 (flStep (x2 ++ x1))) := Hid.mk (by rw [show flStep (x2 ++ x1) = flStep x2 ++ flStep x1 by simp [flatF]]; exact At.ownedK ho2)
          clear ho2 e0 e1
          clear hbd
          (try go_wp2_with fail)
          refine hK.out _ _ ?_ (fun hHeld' => ?_)
          · (try dsimp only)
            exact ⟨p0, p1, p2, p3, p4⟩
          clear hK K hHeld
          have hHeld := hHeld'
          clear hHeld'
          (try simp only [Act.put, List.setIfInBounds_toArray, List.set_cons_zero, List.set_cons_succ])
          refine tr 10 (fun K hK => ?_)
          go_simp
          go_at_call 34
          refine (implGoodSteps r2 (n2 + n1) d2 (x2 ++ x1) w2 HL21.out (by omega) HO2.out).mono ?_
          rintro e w3 ⟨rfl, hb3⟩
          have hbd : Below w2.heap.size w2 w3 := hb3
          have p0 := cell_later hbd p0
          have p1 := cell_later hbd p1
          have p2 := cell_later hbd p2
          have p3 := cell_later hbd p3
          have p4 := cell_later hbd p4
          have HB3 := Hid.mk (HB2.out.trans (hbd.mono HB2.out.size))
          rw [HQ2.out]
          clear hbd
          (try go_wp2_with fail)
          refine hK.out _ _ ?_ (fun hHeld' => ?_)
          · (try dsimp only)
            exact ⟨p0, p1, p2, p3, p4⟩
          clear hK K hHeld
          have hHeld := hHeld'
          clear hHeld'
          (try simp only [Act.put, List.setIfInBounds_toArray, List.set_cons_zero, List.set_cons_succ])
          refine tk 11 ?_
          refine tk 12 ?_
          refine tk 13 ?_
          refine tk 14 ?_
          refine tk 18 ?_
          refine tk 19 ?_
          refine tk 20 ?_
          refine tr 15 (fun K hK => ?_)
          go_simp
          go_at_call 36
          refine (txnsIn_any a1 n1 c1 x1 w3 HZ1.out HG1.out (At.below HA1.out HB3.out)).mono ?_
          rintro e w4 ⟨rfl, hb4⟩
          have hbd : Below w3.heap.size w3 w4 := hb4
          have p0 := cell_later hbd p0
          have p1 := cell_later hbd p1
          have p2 := cell_later hbd p2
          have p3 := cell_later hbd p3
          have p4 := cell_later hbd p4
          have HB4 := Hid.mk (HB3.out.trans (hbd.mono HB3.out.size))
          
          clear hbd
          (try go_wp2_with fail)
          refine hK.out _ _ ?_ (fun hHeld' => ?_)
          · (try dsimp only)
            exact ⟨p0, p1, p2, p3, p4⟩
          clear hK K hHeld
          have hHeld := hHeld'
          clear hHeld'
          (try simp only [Act.put, List.setIfInBounds_toArray, List.set_cons_zero, List.set_cons_succ])
          refine tr 16 (fun K hK => ?_)
          go_simp
          go_at_call 37
          refine (list_any (txS x1) w4 HT1.out (TabIs.below HTAB.out HB4.out)).mono ?_
          rintro e w5 ⟨r5, m5, d5, rfl, hm5, ho5, hb5⟩
          have hbd : Below w4.heap.size w4 w5 := hb5
          have p0 := cell_later hbd p0
          have p1 := cell_later hbd p1
          have p2 := cell_later hbd p2
          have p3 := cell_later hbd p3
          have p4 := cell_later hbd p4
          have HB5 := Hid.mk (HB4.out.trans (hbd.mono HB4.out.size))
          obtain rfl : m5 = Q := hm5.symm.trans HQ.out
          clear ho5 hm5
          clear hbd
          (try go_wp2_with fail)
          refine hK.out _ _ ?_ (fun hHeld' => ?_)
          · (try dsimp only)
            exact ⟨p0, p1, p2, p3, p4⟩
          clear hK K hHeld
          have hHeld := hHeld'
          clear hHeld'
          (try simp only [Act.put, List.setIfInBounds_toArray, List.set_cons_zero, List.set_cons_succ])
          refine tk 17 ?_
          refine tk 21 ?_
          refine tk 22 ?_
          refine tk 23 ?_
          refine tk 24 ?_
          refine tk 25 ?_
          refine tk 26 ?_
          refine tk 27 ?_
          refine tk 30 ?_
          refine tk 31 ?_
          refine tk 33 ?_
          refine tk 34 ?_
          refine wpAnyH_ready (rs := [28]) (by kernel_rfl) (by simp) ?_
          refine AllReadyH.cons (o := ?_) ?_ (fun K hK => ?_) AllReadyH.nil
          rotate_left
          · (simp only [List.getElem?_toArray, List.getElem?_cons_zero, List.getElem?_cons_succ]; rfl)
          go_simp
          (try go_wp2_with fail)
          refine hK.out _ _ ?_ (fun hHeld' => ?_)
          · (try dsimp only)
            exact ⟨cell_later ((Below.refl _ _).alloc (Nat.le_refl _) _) p0, cell_later ((Below.refl _ _).alloc (Nat.le_refl _) _) p1, cell_later ((Below.refl _ _).alloc (Nat.le_refl _) _) p2, cell_later ((Below.refl _ _).alloc (Nat.le_refl _) _) p3, cell_later ((Below.refl _ _).alloc (Nat.le_refl _) _) p4⟩
          clear hK K hHeld
          have hHeld := hHeld'
          clear hHeld'
          (try simp only [Act.put, List.setIfInBounds_toArray, List.set_cons_zero, List.set_cons_succ])
          obtain ⟨X5, hX5⟩ : ∃ u, u = w5.alloc (.cells #[.slice a3 n3 c3, .slice a4 n4 c4] 23) := ⟨_, rfl⟩
          have e0 : X5.cell? ⟨w5.heap.size, 0, none⟩ = some (.slice a3 n3 c3) := by rw [hX5]; exact news_at w5 _ _ 0 _ rfl
          have e1 : X5.cell? ⟨w5.heap.size, 1, none⟩ = some (.slice a4 n4 c4) := by rw [hX5]; exact news_at w5 _ _ 1 _ rfl
          have hbd : Below w5.heap.size w5 X5 := by rw [hX5]; exact ((Below.refl _ _).alloc (Nat.le_refl _) _)
          have p0 := cell_later hbd p0
          have p1 := cell_later hbd p1
          have p2 := cell_later hbd p2
          have p3 := cell_later hbd p3
          have p4 := cell_later hbd p4
          have HX5 := Hid.mk (HB5.out.trans (hbd.mono HB5.out.size))
          rw [← hX5]
          clear hX5 hbd
          refine tr 29 (fun K hK => ?_)
          go_simp
          go_at_call 39
          refine (concatI_any w5.heap.size a3 a4 n3 n4 c3 c4 x3 x4 X5 HZ3.out HZ4.out hs3 hs4 hF3 hF4 (At.below HA3.out HX5.out) (At.below HA4.out HX5.out) e0 e1).mono ?_
          rintro e w6 ⟨r6, d6, rfl, ho6, hb6⟩
          have hbd : Below X5.heap.size X5 w6 := hb6
          have p0 := cell_later hbd p0
          have p1 := cell_later hbd p1
          have p2 := cell_later hbd p2
          have p3 := cell_later hbd p3
          have p4 := cell_later hbd p4
          have HB6 := Hid.mk (HX5.out.trans (hbd.mono HX5.out.size))
          have HO6 := Hid.mk ho6
          clear ho6 e0 e1
          clear hbd
          (try go_wp2_with fail)
          refine hK.out _ _ ?_ (fun hHeld' => ?_)
          · (try dsimp only)
            exact ⟨p0, p1, p2, p3, p4⟩
          clear hK K hHeld
          have hHeld := hHeld'
          clear hHeld'
          (try simp only [Act.put, List.setIfInBounds_toArray, List.set_cons_zero, List.set_cons_succ])
          refine tr 32 (fun K hK => ?_)
          go_simp
          go_at_call 36
          refine (txnsIn_any a0 n0 c0 x0 w6 HZ0.out HG0.out (At.below HA0.out HB6.out)).mono ?_
          rintro e w7 ⟨rfl, hb7⟩
          have hbd : Below w6.heap.size w6 w7 := hb7
          have p0 := cell_later hbd p0
          have p1 := cell_later hbd p1
          have p2 := cell_later hbd p2
          have p3 := cell_later hbd p3
          have p4 := cell_later hbd p4
          have HB7 := Hid.mk (HB6.out.trans (hbd.mono HB6.out.size))
          have HO7 := Hid.mk (owns_below HO6.out hb7)
          clear HO6
          clear hbd
          (try go_wp2_with fail)
          refine hK.out _ _ ?_ (fun hHeld' => ?_)
          · (try dsimp only)
            exact ⟨p0, p1, p2, p3, p4⟩
          clear hK K hHeld
          have hHeld := hHeld'
          clear hHeld'
          (try simp only [Act.put, List.setIfInBounds_toArray, List.set_cons_zero, List.set_cons_succ])
          refine tr 35 (fun K hK => ?_)
          go_simp
          go_at_call 36
          refine (txnsIn_any a1 n1 c1 x1 w7 HZ1.out HG1.out (At.below HA1.out HB7.out)).mono ?_
          rintro e w8 ⟨rfl, hb8⟩
          have hbd : Below w7.heap.size w7 w8 := hb8
          have p0 := cell_later hbd p0
          have p1 := cell_later hbd p1
          have p2 := cell_later hbd p2
          have p3 := cell_later hbd p3
          have p4 := cell_later hbd p4
          have HB8 := Hid.mk (HB7.out.trans (hbd.mono HB7.out.size))
          have HO8 := Hid.mk (owns_below HO7.out hb8)
          clear HO7
          clear hbd
          (try go_wp2_with fail)
          refine hK.out _ _ ?_ (fun hHeld' => ?_)
          · (try dsimp only)
            exact ⟨p0, p1, p2, p3, p4⟩
          clear hK K hHeld
          have hHeld := hHeld'
          clear hHeld'
          (try simp only [Act.put, List.setIfInBounds_toArray, List.set_cons_zero, List.set_cons_succ])
          have hor : bits .or .u64 ((txS x0 : Nat) : Int) ((txS x1 : Nat) : Int) = ((txS x0 ||| txS x1 : Nat) : Int) := u64_or_nat _ _ (by have := HT0.out; omega) (by have := HT1.out; omega)
          refine tk 36 ?_
          refine tr 37 (fun K hK => ?_)
          go_simp
          go_at_call 38
          refine (haveLeft_any r6 (n3 + n4) d6 (x3 ++ x4) (txS x0 ||| txS x1) w8 HL34.out (by omega) (or_lt64 HT0.out HT1.out) (At.owned HO8.out) (TabIs.below HTAB.out HB8.out)).mono ?_
          rintro e w9 ⟨rfl, hb9⟩
          have hbd : Below w8.heap.size w8 w9 := hb9
          have p0 := cell_later hbd p0
          have p1 := cell_later hbd p1
          have p2 := cell_later hbd p2
          have p3 := cell_later hbd p3
          have p4 := cell_later hbd p4
          have HB9 := Hid.mk (HB8.out.trans (hbd.mono HB8.out.size))
          rw [HQ9.out]
          clear hbd
          (try go_wp2_with fail)
          refine hK.out _ _ ?_ (fun hHeld' => ?_)
          · (try dsimp only)
            exact ⟨p0, p1, p2, p3, p4⟩
          clear hK K hHeld
          have hHeld := hHeld'
          clear hHeld'
          (try simp only [Act.put, List.setIfInBounds_toArray, List.set_cons_zero, List.set_cons_succ])
          refine tk 38 ?_
          refine tk 39 ?_
          refine wpAnyH_done (by kernel_rfl) ?_ _
          go_wp2
          go_ret
          exact ⟨ret_bool (by rw [HFIN.out]), HBW.out.trans (HB9.out.mono HBW.out.size)⟩
      · have hqi : ((Q : Int) == (n1 : Int)) = false := beq_eq_false_iff_ne.2 (by omega)
        have HFIN : Hid (glI (x0, x1, x2, x3, x4) = false) := Hid.mk (by rw [HDEF.out, hQ, HZ1.out, decide_eq_false h3]; simp)
        clear h1 h2 h3 hQ
        go_enter Tryd.func10, Tryd.ntmps10
        go_upto_region 1 with fail
        rw [← hW]
        clear hW
        refine wp_region_held_drew (S := fun w' => w'.cell? ⟨w.heap.size, 0, none⟩ = some (.slice a0 n0 c0) ∧ w'.cell? ⟨w.heap.size, 1, none⟩ = some (.slice a1 n1 c1) ∧ w'.cell? ⟨w.heap.size, 2, none⟩ = some (.slice a2 n2 c2) ∧ w'.cell? ⟨w.heap.size, 3, none⟩ = some (.slice a3 n3 c3) ∧ w'.cell? ⟨w.heap.size, 4, none⟩ = some (.slice a4 n4 c4)) (by kernel_rfl) ?_ (fun hHeld => ?_)
        · (try dsimp only)
          exact ⟨p0, p1, p2, p3, p4⟩
        refine tk 0 ?_
        refine tk 1 ?_
        refine tr 2 (fun K hK => ?_)
        go_simp
        go_at_call 33
        refine (KA.out _ (Below.refl _ _).drew).mono ?_
        rintro e w1 ⟨rfl, hb1⟩
        have hbd : Below W.heap.size W w1 := (Below.refl _ _).drew.trans hb1
        have p0 := cell_later hbd p0
        have p1 := cell_later hbd p1
        have p2 := cell_later hbd p2
        have p3 := cell_later hbd p3
        have p4 := cell_later hbd p4
        have HB1 := Hid.mk (HB0.out.trans (hbd.mono HB0.out.size))
        
        clear hbd
        (try go_wp2_with fail)
        refine hK.out _ _ ?_ (fun hHeld' => ?_)
        · (try dsimp only)
          exact ⟨p0, p1, p2, p3, p4⟩
        clear hK K hHeld
        have hHeld := hHeld'
        clear hHeld'
        (try simp only [Act.put, List.setIfInBounds_toArray, List.set_cons_zero, List.set_cons_succ])
        refine tk 3 ?_
        refine tk 4 ?_
        refine tk 5 ?_
        refine tk 6 ?_
        refine tk 7 ?_
        refine wpAnyH_ready (rs := [8]) (by kernel_rfl) (by simp) ?_
        refine AllReadyH.cons (o := ?_) ?_ (fun K hK => ?_) AllReadyH.nil
        rotate_left
        · (simp only [List.getElem?_toArray, List.getElem?_cons_zero, List.getElem?_cons_succ]; rfl)
        go_simp
        (try go_wp2_with fail)
        refine hK.out _ _ ?_ (fun hHeld' => ?_)
        · (try dsimp only)
          exact ⟨cell_later ((Below.refl _ _).alloc (Nat.le_refl _) _) p0, cell_later ((Below.refl _ _).alloc (Nat.le_refl _) _) p1, cell_later ((Below.refl _ _).alloc (Nat.le_refl _) _) p2, cell_later ((Below.refl _ _).alloc (Nat.le_refl _) _) p3, cell_later ((Below.refl _ _).alloc (Nat.le_refl _) _) p4⟩
        clear hK K hHeld
        have hHeld := hHeld'
        clear hHeld'
        (try simp only [Act.put, List.setIfInBounds_toArray, List.set_cons_zero, List.set_cons_succ])
        obtain ⟨X1, hX1⟩ : ∃ u, u = w1.alloc (.cells #[.slice a2 n2 c2, .slice a1 n1 c1] 28) := ⟨_, rfl⟩
        have e0 : X1.cell? ⟨w1.heap.size, 0, none⟩ = some (.slice a2 n2 c2) := by rw [hX1]; exact news_at w1 _ _ 0 _ rfl
        have e1 : X1.cell? ⟨w1.heap.size, 1, none⟩ = some (.slice a1 n1 c1) := by rw [hX1]; exact news_at w1 _ _ 1 _ rfl
        have hbd : Below w1.heap.size w1 X1 := by rw [hX1]; exact ((Below.refl _ _).alloc (Nat.le_refl _) _)
        have p0 := cell_later hbd p0
        have p1 := cell_later hbd p1
        have p2 := cell_later hbd p2
        have p3 := cell_later hbd p3
        have p4 := cell_later hbd p4
        have HX1 := Hid.mk (HB1.out.trans (hbd.mono HB1.out.size))
        rw [← hX1]
        clear hX1 hbd
        refine tr 9 (fun K hK => ?_)
        go_simp
        go_at_call 35
        refine (concatStep_any w1.heap.size a2 a1 n2 n1 c2 c1 (flStep x2) (flStep x1) X1 hs2 hs1 HL2.out HL1.out (At.below HA2.out HX1.out) (At.below HA1.out HX1.out) hF2 hF1 e0 e1).mono ?_
        rintro e w2 ⟨r2, d2, rfl, ho2, hb2⟩
        have hbd : Below X1.heap.size X1 w2 := hb2
        have p0 := cell_later hbd p0
        have p1 := cell_later hbd p1
        have p2 := cell_later hbd p2
        have p3 := cell_later hbd p3
        have p4 := cell_later hbd p4
        have HB2 := Hid.mk (HX1.out.trans (hbd.mono HX1.out.size))
        have HO2 : Hid (At w2 r2 (flStep (x2 ++ x1))) := Hid.mk (by rw [show flStep (x2 ++ x1) = flStep x2 ++ flStep x1 by simp [flatF]]; exact At.ownedK ho2)
        clear ho2 e0 e1
        clear hbd
        (try go_wp2_with fail)
        refine hK.out _ _ ?_ (fun hHeld' => ?_)
        · (try dsimp only)
          exact ⟨p0, p1, p2, p3, p4⟩
        clear hK K hHeld
        have hHeld := hHeld'
        clear hHeld'
        (try simp only [Act.put, List.setIfInBounds_toArray, List.set_cons_zero, List.set_cons_succ])
        refine tr 10 (fun K hK => ?_)
        go_simp
        go_at_call 34
        refine (implGoodSteps r2 (n2 + n1) d2 (x2 ++ x1) w2 HL21.out (by omega) HO2.out).mono ?_
        rintro e w3 ⟨rfl, hb3⟩
        have hbd : Below w2.heap.size w2 w3 := hb3
        have p0 := cell_later hbd p0
        have p1 := cell_later hbd p1
        have p2 := cell_later hbd p2
        have p3 := cell_later hbd p3
        have p4 := cell_later hbd p4
        have HB3 := Hid.mk (HB2.out.trans (hbd.mono HB2.out.size))
        rw [HQ2.out]
        clear hbd
        (try go_wp2_with fail)
        refine hK.out _ _ ?_ (fun hHeld' => ?_)
        · (try dsimp only)
          exact ⟨p0, p1, p2, p3, p4⟩
        clear hK K hHeld
        have hHeld := hHeld'
        clear hHeld'
        (try simp only [Act.put, List.setIfInBounds_toArray, List.set_cons_zero, List.set_cons_succ])
        refine tk 11 ?_
        refine tk 12 ?_
        refine tk 13 ?_
        refine tk 14 ?_
        refine tk 18 ?_
        refine tk 19 ?_
        refine tk 20 ?_
        refine tr 15 (fun K hK => ?_)
        go_simp
        go_at_call 36
        refine (txnsIn_any a1 n1 c1 x1 w3 HZ1.out HG1.out (At.below HA1.out HB3.out)).mono ?_
        rintro e w4 ⟨rfl, hb4⟩
        have hbd : Below w3.heap.size w3 w4 := hb4
        have p0 := cell_later hbd p0
        have p1 := cell_later hbd p1
        have p2 := cell_later hbd p2
        have p3 := cell_later hbd p3
        have p4 := cell_later hbd p4
        have HB4 := Hid.mk (HB3.out.trans (hbd.mono HB3.out.size))
        
        clear hbd
        (try go_wp2_with fail)
        refine hK.out _ _ ?_ (fun hHeld' => ?_)
        · (try dsimp only)
          exact ⟨p0, p1, p2, p3, p4⟩
        clear hK K hHeld
        have hHeld := hHeld'
        clear hHeld'
        (try simp only [Act.put, List.setIfInBounds_toArray, List.set_cons_zero, List.set_cons_succ])
        refine tr 16 (fun K hK => ?_)
        go_simp
        go_at_call 37
        refine (list_any (txS x1) w4 HT1.out (TabIs.below HTAB.out HB4.out)).mono ?_
        rintro e w5 ⟨r5, m5, d5, rfl, hm5, ho5, hb5⟩
        have hbd : Below w4.heap.size w4 w5 := hb5
        have p0 := cell_later hbd p0
        have p1 := cell_later hbd p1
        have p2 := cell_later hbd p2
        have p3 := cell_later hbd p3
        have p4 := cell_later hbd p4
        have HB5 := Hid.mk (HB4.out.trans (hbd.mono HB4.out.size))
        obtain rfl : m5 = Q := hm5.symm.trans HQ.out
        clear ho5 hm5
        clear hbd
        (try go_wp2_with fail)
        refine hK.out _ _ ?_ (fun hHeld' => ?_)
        · (try dsimp only)
          exact ⟨p0, p1, p2, p3, p4⟩
        clear hK K hHeld
        have hHeld := hHeld'
        clear hHeld'
        (try simp only [Act.put, List.setIfInBounds_toArray, List.set_cons_zero, List.set_cons_succ])
        refine tk 17 ?_
        refine tk 21 ?_
        refine tk 22 ?_
        refine tk 23 ?_
        refine tu 24 ?_
        refine tu 25 ?_
        refine tu 26 ?_
        refine tu 27 ?_
        refine tu 28 ?_
        refine tu 29 ?_
        refine tu 30 ?_
        refine tu 31 ?_
        refine tu 32 ?_
        refine tu 33 ?_
        refine tu 34 ?_
        refine tu 35 ?_
        refine tu 36 ?_
        refine tu 37 ?_
        refine tk 38 ?_
        refine tk 39 ?_
        refine wpAnyH_done (by kernel_rfl) ?_ _
        go_wp2
        go_ret
        exact ⟨ret_bool (by rw [HFIN.out]), HBW.out.trans (HB5.out.mono HBW.out.size)⟩

end Go.Proofs.YtjjebodlekepaaaDoor
