/- The law FnRolled returns true at every input, and writes nothing that was there. -/
import Derived.Test.YtlfljfmhhnoinabM26
import Derived.Test.YtlfljfmhhnoinabM27
import Derived.Test.YtlfljfmhhnoinabM28
import Derived.Test.YtlfljfmhhnoinabM30
import Derived.Test.YtlfljfmhhnoinabM31
import Derived.Test.YtlfljfmhhnoinabM32
import Derived.Test.YtlfljfmhhnoinabM11
import Derived.Test.YtlfljfmhhnoinabM19
namespace Go.Proofs.Ytlfljfmhhnoinab
open Go.RowKit

theorem gaRows_plain (ts : List GRow) : plainT (gaRows ts) = true := by
  simp [plainT, gaRows]
theorem ansG_one (ts : List GRow) : (ansG (rollB ts []) (rollL ts [])).length ≤ 1 := by
  rw [rollL_nil]
  cases rollB ts [] with
  | false => simp [ansG]
  | true => exact oneV_len _ _

set_option maxRecDepth 100000 in
set_option maxHeartbeats 16000000 in
theorem lawRolled (a a' : Option Addr) (n n' c c' : Nat) (w : World) (hn : n ≤ 9223372036854775807) (hn' : n' ≤ 9223372036854775807) (ha : AtB w a n) (ha' : AtB w a' n') (hb : 0 < n → ∀ b off, a = some ⟨b, off, none⟩ → b < w.heap.size) (hb' : 0 < n' → ∀ b off, a' = some ⟨b, off, none⟩ → b < w.heap.size) :
    Calls Try.prog 4 #[.slice a n c, .slice a' n' c'] w fun e w' => e = .returned (.bool true) ∧ Below w.heap.size w w' := by
  have HA := Hid.mk (And.intro ha hb)
  have HA' := Hid.mk (And.intro ha' hb')
  clear ha hb ha' hb'
  by_cases hbig : (1048576 : Int) < Go.RowKit.wrap64 ((n : Int) + (n' : Int))
  · go_enter Try.func4, Try.ntmps4
    go_wp2
    go_ret
    exact ⟨rfl, Below.refl _ _⟩
  go_enter Try.func4, Try.ntmps4
  go_wp2_with fail
  refine (drawRollUp a n c w hn HA.out.1 HA.out.2).mono ?_
  rintro e w1 ⟨ts, r, m, d, zs, r', m', d', hl, hm, _, hl', hm', rfl, _, hN, hZ, hb1⟩
  have HN := Hid.mk hN.atV
  have HZ := Hid.mk hZ
  have B1 := hb1
  clear hN hZ hb1 hbig
  go_wp2_with fail
  refine (implRollUp r r' m m' d d' ts zs w1 hl (by omega) hl' (by omega) HN.out HZ.out).mono ?_
  rintro e w2 ⟨⟨r2, m2, d2, rfl, ho2⟩, hb2⟩
  have B2 := B1.trans (hb2.mono B1.size)
  have HN2 := Hid.mk (HN.out.below hb2)
  have HZ2 := Hid.mk (HZ.out.below hb2)
  have H2 := Hid.mk ho2
  clear hb2 ho2 HN HZ
  go_wp2_with fail
  refine (specRollUp r r' m m' d d' ts zs w2 hl (by omega) hl' (by omega) HN2.out HZ2.out).mono ?_
  rintro e w3 ⟨⟨r3, m3, d3, rfl, ho3⟩, hb3⟩
  have hsm : SmV (ansG (rollB ts zs) (rollL ts zs)) (ansG (rollB ts zs) (rollL ts zs)).length := goodV_of_ok rollB_goodV
  have hs60 := (ansG_small (ok := rollB ts zs) (ts := rollL ts zs) rollB_goodV).1
  have e2 := H2.out.len
  have e3 := ho3.len
  have B3 := B2.trans (hb3.mono B2.size)
  have HN3 := Hid.mk (HN2.out.below hb3)
  obtain rfl : m3 = m2 := by omega
  rw [e2] at hsm hs60
  have HU := Hid.mk ((H2.out.below hb3).atV hsm)
  have HU' := Hid.mk (ho3.atV hsm)
  have HE2 := Hid.mk e2
  clear hb3 ho3 H2 HN2 HZ2 e3 e2
  obtain ⟨ok, hok⟩ : ∃ ok, rollB ts zs = ok := ⟨_, rfl⟩
  have HOK := Hid.mk hok
  rw [hok] at HU HU' HE2 ⊢
  clear hok hsm
  go_wp2_with fail
  refine (sameGroups_eq r2 r3 m3 d2 d3 _ w3 HE2.out (by omega) HU.out HU'.out).mono ?_
  rintro e w4 ⟨rfl, hb4⟩
  have B4 := B3.trans (hb4.mono B3.size)
  have HN4 := Hid.mk (HN3.out.below hb4)
  have HU4 := Hid.mk (HU.out.below hb4)
  clear hb4 HN3 HU HU'
  cases ok with
  | false =>
    go_wp2_with fail
    have BX := B4
    refine (drawGroupsAsTable a' n' c' w4 hn' (HA'.out.1.below BX) (fun h0 b off e => Nat.lt_of_lt_of_le (HA'.out.2 h0 b off e) BX.size)).mono ?_
    rintro e v1 ⟨gs, q, k, e1, hgl, hk60, _, rfl, _, hgN, hv1⟩
    have HGN := Hid.mk hgN
    have C1 := BX.trans (hv1.mono BX.size)
    clear hgN hv1 BX
    go_wp2_with fail
    refine (implGroupsAsTable q k e1 gs v1 hgl (by omega) HGN.out).mono ?_
    rintro e v2 ⟨⟨r5, m5, d5, cs5, rfl, ho5⟩, hv2⟩
    have C2 := C1.trans (hv2.mono C1.size)
    have HSM : Hid (SmT (ansT (gaB gs) (gaRows gs)) (ansT (gaB gs) (gaRows gs)).length) := ans_small gaB_goodT
    have e5 := ho5.len
    obtain ⟨P, hP⟩ : ∃ P, ansP (gaB gs) (gaP gs) = P := ⟨_, rfl⟩
    rw [hP]
    obtain ⟨X1, hX1⟩ : ∃ X, X = v2.alloc (.cells #[.int .i64 P, .slice r5 m5 d5] 32) := ⟨_, rfl⟩
    have bX1 : Below v2.heap.size v2 X1 := by rw [hX1]; exact (Below.refl _ _).alloc (Nat.le_refl _) _
    have x0 : X1.cell? ⟨v2.heap.size, 0, none⟩ = some (.int .i64 P) := by rw [hX1]; exact pair0 v2 _ _ _
    have x1 : X1.cell? ⟨v2.heap.size, 1, none⟩ = some (.slice r5 m5 d5) := by rw [hX1]; exact pair1 v2 _ _ _
    have C3 := C2.trans (bX1.mono C2.size)
    have HG3 := Hid.mk (HGN.out.below (hv2.trans (bX1.mono hv2.size)))
    have HO3 := Hid.mk (ho5.below bX1)
    clear ho5 HGN
    go_upto_region 18 with fail
    rw [← hX1]
    clear hX1 bX1 hv2
    go_wp2_with fail
    refine (specGroupsAsTable q k e1 gs X1 hgl (by omega) HG3.out).mono ?_
    rintro e v3 ⟨⟨r6, m6, d6, cs6, rfl, ho6⟩, hv3⟩
    have C4 := C3.trans (hv3.mono C3.size)
    rw [hP]
    obtain ⟨X2, hX2⟩ : ∃ X, X = v3.alloc (.cells #[.int .i64 P, .slice r6 m6 d6] 32) := ⟨_, rfl⟩
    have bX2 : Below v3.heap.size v3 X2 := by rw [hX2]; exact (Below.refl _ _).alloc (Nat.le_refl _) _
    have y0 : X2.cell? ⟨v3.heap.size, 0, none⟩ = some (.int .i64 P) := by rw [hX2]; exact pair0 v3 _ _ _
    have y1 : X2.cell? ⟨v3.heap.size, 1, none⟩ = some (.slice r6 m6 d6) := by rw [hX2]; exact pair1 v3 _ _ _
    replace x0 := cell_later bX2 (cell_later hv3 x0)
    replace x1 := cell_later bX2 (cell_later hv3 x1)
    have C5 := C4.trans (bX2.mono C4.size)
    have e6 := ho6.len
    obtain rfl : m6 = m5 := by omega
    have HSM2 : Hid (∀ i, i < m6 → (wat (ansT (gaB gs) (gaRows gs)) i).1.length ≤ 9223372036854775807) := fun i hi => by have h1 := HSM.out; rw [e5] at h1; exact h1.rowx i hi
    have HT := Hid.mk (((HO3.out.below hv3).below bX2).atW HSM2.out)
    have HT' := Hid.mk ((ho6.below bX2).atW HSM2.out)
    have hm6 : m6 ≤ 1048576 := by have h1 := HSM.out.n; omega
    clear ho6 HG3 HO3
    go_upto_region 19 with fail
    rw [← hX2]
    clear hX2 bX2 hv3
    have HE5 := Hid.mk e5
    have HPP := Hid.mk hP
    clear e5 e6 hP
    obtain ⟨ok9, hok9⟩ : ∃ b, gaB gs = b := ⟨_, rfl⟩
    have HOK9 := Hid.mk hok9
    rw [hok9] at HT HT' HE5 ⊢
    clear hok9
    go_wp2_with fail
    refine (same_eq r5 r6 m6 d5 d6 _ P X2 HE5.out hm6 HT.out HT'.out).mono ?_
    rintro e v4 ⟨rfl, hv4⟩
    have C6 := C5.trans (hv4.mono C5.size)
    replace x0 := cell_later hv4 x0
    replace x1 := cell_later hv4 x1
    have HT4 := Hid.mk (HT.out.below hv4)
    clear hv4 HT HT' y0 y1
    cases ok9 with
    | false =>
      have h0 : m6 = 0 := HE5.out.symm
      subst h0
      go_wp2
      go_ret
      exact ⟨rfl, C6⟩
    | true =>
      have HT5 : Hid (AtW v4 r5 (gaRows gs)) := HT4.out
      have HE6 : Hid ((gaRows gs).length = m6) := HE5.out
      have hkm : m6 = k := by rw [← HE6.out, gaRows_length]; exact hgl
      subst hkm
      have HGT : Hid (goodT P (gaRows gs) = true) := by
        have h1 := gaB_goodT HOK9.out
        have h2 := HPP.out
        rw [HOK9.out] at h2
        show goodT P _ = _
        rw [← h2]; exact h1
      have HPL := Hid.mk (gaRows_plain gs)
      clear HT4 HE5
      go_wp2_with fail
      refine (implIsPlain_any r5 m6 d5 (gaRows gs) P v4 HE6.out hm6 HT5.out).mono ?_
      rintro e v5 ⟨rfl, hv5⟩
      rw [HGT.out, HPL.out]
      have C7 := C6.trans (hv5.mono C6.size)
      replace x0 := cell_later hv5 x0
      replace x1 := cell_later hv5 x1
      go_wp2
      go_ret
      exact ⟨ret_bool (by simp), C7⟩
  | true =>
    have HE : Hid ((rollL ts zs).length = m3) := HE2.out
    have HUT : Hid (AtV w4 r2 (rollL ts zs)) := HU4.out
    have HTR := Hid.mk (totalV_roll ts zs)
    have HONE := Hid.mk (ansG_one ts)
    clear HE2 HU4
    go_wp2_with fail
    refine (implTotalsOf r m d ts w4 hl (by omega) HN4.out).mono ?_
    rintro e w5 ⟨rfl, hb5⟩
    have B5 := B4.trans (hb5.mono B4.size)
    have HN5 := Hid.mk (HN4.out.below hb5)
    have HU5 := Hid.mk (HUT.out.below hb5)
    clear hb5 HN4 HUT
    go_wp2_with fail
    refine (implTotalsOf r2 m3 d2 (rollL ts zs) w5 HE.out (by omega) HU5.out).mono ?_
    rintro e w6 ⟨rfl, hb6⟩
    have B6 := B5.trans (hb6.mono B5.size)
    have HN6 := Hid.mk (HN5.out.below hb6)
    clear hb6 HN5 HU5
    have HZ1 : Hid (totB ts = true → totB (rollL ts zs) = true → totZ (rollL ts zs) = totZ ts) := fun h1 h2 => by rw [totZ_yes h1, totZ_yes h2]; exact HTR.out
    generalize rollL ts zs = us at *
    obtain ⟨A, hA⟩ : ∃ A, totZ ts = A := ⟨_, rfl⟩
    obtain ⟨D, hD⟩ : ∃ D, totZ us = D := ⟨_, rfl⟩
    rw [hA, hD] at HZ1 ⊢
    obtain ⟨t1, ht1⟩ : ∃ b, totB ts = b := ⟨_, rfl⟩
    obtain ⟨t2, ht2⟩ : ∃ b, totB us = b := ⟨_, rfl⟩
    rw [ht1, ht2] at HZ1 ⊢
    clear hA hD ht1 ht2
    obtain ⟨A1, A2⟩ := A
    obtain ⟨D1, D2⟩ := D
    have HQ : Hid (t1 = true → t2 = true → D1 = A1 ∧ D2 = A2) := fun h1 h2 => by have := HZ1.out h1 h2; simpa using this
    clear HZ1
    simp only
    cases t1 with
    | false =>
      go_wp2_with fail
      refine (implRollUp r none m 0 d 0 ts [] w6 hl (by omega) rfl (by omega) HN6.out (At.nil _ _)).mono ?_
      rintro e w7 ⟨⟨r7, m7, d7, rfl, ho7⟩, hb7⟩
      have hm7 : m7 ≤ 1 := by have h1 := ho7.len; have h2 := HONE.out; omega
      have B7 := B6.trans (hb7.mono B6.size)
      clear ho7 hb7 HN6 HONE
      obtain ⟨ok7, hok7⟩ : ∃ b, rollB ts [] = b := ⟨_, rfl⟩
      rw [hok7]
      clear hok7
      have hm7' : ¬ (1 : Int) < (m7 : Int) := by omega
      cases ok7 with
      | false =>
        go_wp2_with fail
        have BX := B7
        refine (drawGroupsAsTable a' n' c' w7 hn' (HA'.out.1.below BX) (fun h0 b off e => Nat.lt_of_lt_of_le (HA'.out.2 h0 b off e) BX.size)).mono ?_
        rintro e v1 ⟨gs, q, k, e1, hgl, hk60, _, rfl, _, hgN, hv1⟩
        have HGN := Hid.mk hgN
        have C1 := BX.trans (hv1.mono BX.size)
        clear hgN hv1 BX
        go_wp2_with fail
        refine (implGroupsAsTable q k e1 gs v1 hgl (by omega) HGN.out).mono ?_
        rintro e v2 ⟨⟨r5, m5, d5, cs5, rfl, ho5⟩, hv2⟩
        have C2 := C1.trans (hv2.mono C1.size)
        have HSM : Hid (SmT (ansT (gaB gs) (gaRows gs)) (ansT (gaB gs) (gaRows gs)).length) := ans_small gaB_goodT
        have e5 := ho5.len
        obtain ⟨P, hP⟩ : ∃ P, ansP (gaB gs) (gaP gs) = P := ⟨_, rfl⟩
        rw [hP]
        obtain ⟨X1, hX1⟩ : ∃ X, X = v2.alloc (.cells #[.int .i64 P, .slice r5 m5 d5] 32) := ⟨_, rfl⟩
        have bX1 : Below v2.heap.size v2 X1 := by rw [hX1]; exact (Below.refl _ _).alloc (Nat.le_refl _) _
        have x0 : X1.cell? ⟨v2.heap.size, 0, none⟩ = some (.int .i64 P) := by rw [hX1]; exact pair0 v2 _ _ _
        have x1 : X1.cell? ⟨v2.heap.size, 1, none⟩ = some (.slice r5 m5 d5) := by rw [hX1]; exact pair1 v2 _ _ _
        have C3 := C2.trans (bX1.mono C2.size)
        have HG3 := Hid.mk (HGN.out.below (hv2.trans (bX1.mono hv2.size)))
        have HO3 := Hid.mk (ho5.below bX1)
        clear ho5 HGN
        go_upto_region 18 with fail
        rw [← hX1]
        clear hX1 bX1 hv2
        go_wp2_with fail
        refine (specGroupsAsTable q k e1 gs X1 hgl (by omega) HG3.out).mono ?_
        rintro e v3 ⟨⟨r6, m6, d6, cs6, rfl, ho6⟩, hv3⟩
        have C4 := C3.trans (hv3.mono C3.size)
        rw [hP]
        obtain ⟨X2, hX2⟩ : ∃ X, X = v3.alloc (.cells #[.int .i64 P, .slice r6 m6 d6] 32) := ⟨_, rfl⟩
        have bX2 : Below v3.heap.size v3 X2 := by rw [hX2]; exact (Below.refl _ _).alloc (Nat.le_refl _) _
        have y0 : X2.cell? ⟨v3.heap.size, 0, none⟩ = some (.int .i64 P) := by rw [hX2]; exact pair0 v3 _ _ _
        have y1 : X2.cell? ⟨v3.heap.size, 1, none⟩ = some (.slice r6 m6 d6) := by rw [hX2]; exact pair1 v3 _ _ _
        replace x0 := cell_later bX2 (cell_later hv3 x0)
        replace x1 := cell_later bX2 (cell_later hv3 x1)
        have C5 := C4.trans (bX2.mono C4.size)
        have e6 := ho6.len
        obtain rfl : m6 = m5 := by omega
        have HSM2 : Hid (∀ i, i < m6 → (wat (ansT (gaB gs) (gaRows gs)) i).1.length ≤ 9223372036854775807) := fun i hi => by have h1 := HSM.out; rw [e5] at h1; exact h1.rowx i hi
        have HT := Hid.mk (((HO3.out.below hv3).below bX2).atW HSM2.out)
        have HT' := Hid.mk ((ho6.below bX2).atW HSM2.out)
        have hm6 : m6 ≤ 1048576 := by have h1 := HSM.out.n; omega
        clear ho6 HG3 HO3
        go_upto_region 19 with fail
        rw [← hX2]
        clear hX2 bX2 hv3
        have HE5 := Hid.mk e5
        have HPP := Hid.mk hP
        clear e5 e6 hP
        obtain ⟨ok9, hok9⟩ : ∃ b, gaB gs = b := ⟨_, rfl⟩
        have HOK9 := Hid.mk hok9
        rw [hok9] at HT HT' HE5 ⊢
        clear hok9
        go_wp2_with fail
        refine (same_eq r5 r6 m6 d5 d6 _ P X2 HE5.out hm6 HT.out HT'.out).mono ?_
        rintro e v4 ⟨rfl, hv4⟩
        have C6 := C5.trans (hv4.mono C5.size)
        replace x0 := cell_later hv4 x0
        replace x1 := cell_later hv4 x1
        have HT4 := Hid.mk (HT.out.below hv4)
        clear hv4 HT HT' y0 y1
        cases ok9 with
        | false =>
          have h0 : m6 = 0 := HE5.out.symm
          subst h0
          go_wp2
          go_ret
          exact ⟨rfl, C6⟩
        | true =>
          have HT5 : Hid (AtW v4 r5 (gaRows gs)) := HT4.out
          have HE6 : Hid ((gaRows gs).length = m6) := HE5.out
          have hkm : m6 = k := by rw [← HE6.out, gaRows_length]; exact hgl
          subst hkm
          have HGT : Hid (goodT P (gaRows gs) = true) := by
            have h1 := gaB_goodT HOK9.out
            have h2 := HPP.out
            rw [HOK9.out] at h2
            show goodT P _ = _
            rw [← h2]; exact h1
          have HPL := Hid.mk (gaRows_plain gs)
          clear HT4 HE5
          go_wp2_with fail
          refine (implIsPlain_any r5 m6 d5 (gaRows gs) P v4 HE6.out hm6 HT5.out).mono ?_
          rintro e v5 ⟨rfl, hv5⟩
          rw [HGT.out, HPL.out]
          have C7 := C6.trans (hv5.mono C6.size)
          replace x0 := cell_later hv5 x0
          replace x1 := cell_later hv5 x1
          go_wp2
          go_ret
          exact ⟨ret_bool (by simp), C7⟩
      | true =>
        go_wp2_with fail
        have BX := B7
        refine (drawGroupsAsTable a' n' c' w7 hn' (HA'.out.1.below BX) (fun h0 b off e => Nat.lt_of_lt_of_le (HA'.out.2 h0 b off e) BX.size)).mono ?_
        rintro e v1 ⟨gs, q, k, e1, hgl, hk60, _, rfl, _, hgN, hv1⟩
        have HGN := Hid.mk hgN
        have C1 := BX.trans (hv1.mono BX.size)
        clear hgN hv1 BX
        go_wp2_with fail
        refine (implGroupsAsTable q k e1 gs v1 hgl (by omega) HGN.out).mono ?_
        rintro e v2 ⟨⟨r5, m5, d5, cs5, rfl, ho5⟩, hv2⟩
        have C2 := C1.trans (hv2.mono C1.size)
        have HSM : Hid (SmT (ansT (gaB gs) (gaRows gs)) (ansT (gaB gs) (gaRows gs)).length) := ans_small gaB_goodT
        have e5 := ho5.len
        obtain ⟨P, hP⟩ : ∃ P, ansP (gaB gs) (gaP gs) = P := ⟨_, rfl⟩
        rw [hP]
        obtain ⟨X1, hX1⟩ : ∃ X, X = v2.alloc (.cells #[.int .i64 P, .slice r5 m5 d5] 32) := ⟨_, rfl⟩
        have bX1 : Below v2.heap.size v2 X1 := by rw [hX1]; exact (Below.refl _ _).alloc (Nat.le_refl _) _
        have x0 : X1.cell? ⟨v2.heap.size, 0, none⟩ = some (.int .i64 P) := by rw [hX1]; exact pair0 v2 _ _ _
        have x1 : X1.cell? ⟨v2.heap.size, 1, none⟩ = some (.slice r5 m5 d5) := by rw [hX1]; exact pair1 v2 _ _ _
        have C3 := C2.trans (bX1.mono C2.size)
        have HG3 := Hid.mk (HGN.out.below (hv2.trans (bX1.mono hv2.size)))
        have HO3 := Hid.mk (ho5.below bX1)
        clear ho5 HGN
        go_upto_region 18 with fail
        rw [← hX1]
        clear hX1 bX1 hv2
        go_wp2_with fail
        refine (specGroupsAsTable q k e1 gs X1 hgl (by omega) HG3.out).mono ?_
        rintro e v3 ⟨⟨r6, m6, d6, cs6, rfl, ho6⟩, hv3⟩
        have C4 := C3.trans (hv3.mono C3.size)
        rw [hP]
        obtain ⟨X2, hX2⟩ : ∃ X, X = v3.alloc (.cells #[.int .i64 P, .slice r6 m6 d6] 32) := ⟨_, rfl⟩
        have bX2 : Below v3.heap.size v3 X2 := by rw [hX2]; exact (Below.refl _ _).alloc (Nat.le_refl _) _
        have y0 : X2.cell? ⟨v3.heap.size, 0, none⟩ = some (.int .i64 P) := by rw [hX2]; exact pair0 v3 _ _ _
        have y1 : X2.cell? ⟨v3.heap.size, 1, none⟩ = some (.slice r6 m6 d6) := by rw [hX2]; exact pair1 v3 _ _ _
        replace x0 := cell_later bX2 (cell_later hv3 x0)
        replace x1 := cell_later bX2 (cell_later hv3 x1)
        have C5 := C4.trans (bX2.mono C4.size)
        have e6 := ho6.len
        obtain rfl : m6 = m5 := by omega
        have HSM2 : Hid (∀ i, i < m6 → (wat (ansT (gaB gs) (gaRows gs)) i).1.length ≤ 9223372036854775807) := fun i hi => by have h1 := HSM.out; rw [e5] at h1; exact h1.rowx i hi
        have HT := Hid.mk (((HO3.out.below hv3).below bX2).atW HSM2.out)
        have HT' := Hid.mk ((ho6.below bX2).atW HSM2.out)
        have hm6 : m6 ≤ 1048576 := by have h1 := HSM.out.n; omega
        clear ho6 HG3 HO3
        go_upto_region 19 with fail
        rw [← hX2]
        clear hX2 bX2 hv3
        have HE5 := Hid.mk e5
        have HPP := Hid.mk hP
        clear e5 e6 hP
        obtain ⟨ok9, hok9⟩ : ∃ b, gaB gs = b := ⟨_, rfl⟩
        have HOK9 := Hid.mk hok9
        rw [hok9] at HT HT' HE5 ⊢
        clear hok9
        go_wp2_with fail
        refine (same_eq r5 r6 m6 d5 d6 _ P X2 HE5.out hm6 HT.out HT'.out).mono ?_
        rintro e v4 ⟨rfl, hv4⟩
        have C6 := C5.trans (hv4.mono C5.size)
        replace x0 := cell_later hv4 x0
        replace x1 := cell_later hv4 x1
        have HT4 := Hid.mk (HT.out.below hv4)
        clear hv4 HT HT' y0 y1
        cases ok9 with
        | false =>
          have h0 : m6 = 0 := HE5.out.symm
          subst h0
          go_wp2
          go_ret
          exact ⟨rfl, C6⟩
        | true =>
          have HT5 : Hid (AtW v4 r5 (gaRows gs)) := HT4.out
          have HE6 : Hid ((gaRows gs).length = m6) := HE5.out
          have hkm : m6 = k := by rw [← HE6.out, gaRows_length]; exact hgl
          subst hkm
          have HGT : Hid (goodT P (gaRows gs) = true) := by
            have h1 := gaB_goodT HOK9.out
            have h2 := HPP.out
            rw [HOK9.out] at h2
            show goodT P _ = _
            rw [← h2]; exact h1
          have HPL := Hid.mk (gaRows_plain gs)
          clear HT4 HE5
          go_wp2_with fail
          refine (implIsPlain_any r5 m6 d5 (gaRows gs) P v4 HE6.out hm6 HT5.out).mono ?_
          rintro e v5 ⟨rfl, hv5⟩
          rw [HGT.out, HPL.out]
          have C7 := C6.trans (hv5.mono C6.size)
          replace x0 := cell_later hv5 x0
          replace x1 := cell_later hv5 x1
          go_wp2
          go_ret
          exact ⟨ret_bool (by simp), C7⟩
    | true =>
      cases t2 with
      | false =>
        go_wp2_with fail
        refine (implRollUp r none m 0 d 0 ts [] w6 hl (by omega) rfl (by omega) HN6.out (At.nil _ _)).mono ?_
        rintro e w7 ⟨⟨r7, m7, d7, rfl, ho7⟩, hb7⟩
        have hm7 : m7 ≤ 1 := by have h1 := ho7.len; have h2 := HONE.out; omega
        have B7 := B6.trans (hb7.mono B6.size)
        clear ho7 hb7 HN6 HONE
        obtain ⟨ok7, hok7⟩ : ∃ b, rollB ts [] = b := ⟨_, rfl⟩
        rw [hok7]
        clear hok7
        have hm7' : ¬ (1 : Int) < (m7 : Int) := by omega
        cases ok7 with
        | false =>
          go_wp2_with fail
          have BX := B7
          refine (drawGroupsAsTable a' n' c' w7 hn' (HA'.out.1.below BX) (fun h0 b off e => Nat.lt_of_lt_of_le (HA'.out.2 h0 b off e) BX.size)).mono ?_
          rintro e v1 ⟨gs, q, k, e1, hgl, hk60, _, rfl, _, hgN, hv1⟩
          have HGN := Hid.mk hgN
          have C1 := BX.trans (hv1.mono BX.size)
          clear hgN hv1 BX
          go_wp2_with fail
          refine (implGroupsAsTable q k e1 gs v1 hgl (by omega) HGN.out).mono ?_
          rintro e v2 ⟨⟨r5, m5, d5, cs5, rfl, ho5⟩, hv2⟩
          have C2 := C1.trans (hv2.mono C1.size)
          have HSM : Hid (SmT (ansT (gaB gs) (gaRows gs)) (ansT (gaB gs) (gaRows gs)).length) := ans_small gaB_goodT
          have e5 := ho5.len
          obtain ⟨P, hP⟩ : ∃ P, ansP (gaB gs) (gaP gs) = P := ⟨_, rfl⟩
          rw [hP]
          obtain ⟨X1, hX1⟩ : ∃ X, X = v2.alloc (.cells #[.int .i64 P, .slice r5 m5 d5] 32) := ⟨_, rfl⟩
          have bX1 : Below v2.heap.size v2 X1 := by rw [hX1]; exact (Below.refl _ _).alloc (Nat.le_refl _) _
          have x0 : X1.cell? ⟨v2.heap.size, 0, none⟩ = some (.int .i64 P) := by rw [hX1]; exact pair0 v2 _ _ _
          have x1 : X1.cell? ⟨v2.heap.size, 1, none⟩ = some (.slice r5 m5 d5) := by rw [hX1]; exact pair1 v2 _ _ _
          have C3 := C2.trans (bX1.mono C2.size)
          have HG3 := Hid.mk (HGN.out.below (hv2.trans (bX1.mono hv2.size)))
          have HO3 := Hid.mk (ho5.below bX1)
          clear ho5 HGN
          go_upto_region 18 with fail
          rw [← hX1]
          clear hX1 bX1 hv2
          go_wp2_with fail
          refine (specGroupsAsTable q k e1 gs X1 hgl (by omega) HG3.out).mono ?_
          rintro e v3 ⟨⟨r6, m6, d6, cs6, rfl, ho6⟩, hv3⟩
          have C4 := C3.trans (hv3.mono C3.size)
          rw [hP]
          obtain ⟨X2, hX2⟩ : ∃ X, X = v3.alloc (.cells #[.int .i64 P, .slice r6 m6 d6] 32) := ⟨_, rfl⟩
          have bX2 : Below v3.heap.size v3 X2 := by rw [hX2]; exact (Below.refl _ _).alloc (Nat.le_refl _) _
          have y0 : X2.cell? ⟨v3.heap.size, 0, none⟩ = some (.int .i64 P) := by rw [hX2]; exact pair0 v3 _ _ _
          have y1 : X2.cell? ⟨v3.heap.size, 1, none⟩ = some (.slice r6 m6 d6) := by rw [hX2]; exact pair1 v3 _ _ _
          replace x0 := cell_later bX2 (cell_later hv3 x0)
          replace x1 := cell_later bX2 (cell_later hv3 x1)
          have C5 := C4.trans (bX2.mono C4.size)
          have e6 := ho6.len
          obtain rfl : m6 = m5 := by omega
          have HSM2 : Hid (∀ i, i < m6 → (wat (ansT (gaB gs) (gaRows gs)) i).1.length ≤ 9223372036854775807) := fun i hi => by have h1 := HSM.out; rw [e5] at h1; exact h1.rowx i hi
          have HT := Hid.mk (((HO3.out.below hv3).below bX2).atW HSM2.out)
          have HT' := Hid.mk ((ho6.below bX2).atW HSM2.out)
          have hm6 : m6 ≤ 1048576 := by have h1 := HSM.out.n; omega
          clear ho6 HG3 HO3
          go_upto_region 19 with fail
          rw [← hX2]
          clear hX2 bX2 hv3
          have HE5 := Hid.mk e5
          have HPP := Hid.mk hP
          clear e5 e6 hP
          obtain ⟨ok9, hok9⟩ : ∃ b, gaB gs = b := ⟨_, rfl⟩
          have HOK9 := Hid.mk hok9
          rw [hok9] at HT HT' HE5 ⊢
          clear hok9
          go_wp2_with fail
          refine (same_eq r5 r6 m6 d5 d6 _ P X2 HE5.out hm6 HT.out HT'.out).mono ?_
          rintro e v4 ⟨rfl, hv4⟩
          have C6 := C5.trans (hv4.mono C5.size)
          replace x0 := cell_later hv4 x0
          replace x1 := cell_later hv4 x1
          have HT4 := Hid.mk (HT.out.below hv4)
          clear hv4 HT HT' y0 y1
          cases ok9 with
          | false =>
            have h0 : m6 = 0 := HE5.out.symm
            subst h0
            go_wp2
            go_ret
            exact ⟨rfl, C6⟩
          | true =>
            have HT5 : Hid (AtW v4 r5 (gaRows gs)) := HT4.out
            have HE6 : Hid ((gaRows gs).length = m6) := HE5.out
            have hkm : m6 = k := by rw [← HE6.out, gaRows_length]; exact hgl
            subst hkm
            have HGT : Hid (goodT P (gaRows gs) = true) := by
              have h1 := gaB_goodT HOK9.out
              have h2 := HPP.out
              rw [HOK9.out] at h2
              show goodT P _ = _
              rw [← h2]; exact h1
            have HPL := Hid.mk (gaRows_plain gs)
            clear HT4 HE5
            go_wp2_with fail
            refine (implIsPlain_any r5 m6 d5 (gaRows gs) P v4 HE6.out hm6 HT5.out).mono ?_
            rintro e v5 ⟨rfl, hv5⟩
            rw [HGT.out, HPL.out]
            have C7 := C6.trans (hv5.mono C6.size)
            replace x0 := cell_later hv5 x0
            replace x1 := cell_later hv5 x1
            go_wp2
            go_ret
            exact ⟨ret_bool (by simp), C7⟩
        | true =>
          go_wp2_with fail
          have BX := B7
          refine (drawGroupsAsTable a' n' c' w7 hn' (HA'.out.1.below BX) (fun h0 b off e => Nat.lt_of_lt_of_le (HA'.out.2 h0 b off e) BX.size)).mono ?_
          rintro e v1 ⟨gs, q, k, e1, hgl, hk60, _, rfl, _, hgN, hv1⟩
          have HGN := Hid.mk hgN
          have C1 := BX.trans (hv1.mono BX.size)
          clear hgN hv1 BX
          go_wp2_with fail
          refine (implGroupsAsTable q k e1 gs v1 hgl (by omega) HGN.out).mono ?_
          rintro e v2 ⟨⟨r5, m5, d5, cs5, rfl, ho5⟩, hv2⟩
          have C2 := C1.trans (hv2.mono C1.size)
          have HSM : Hid (SmT (ansT (gaB gs) (gaRows gs)) (ansT (gaB gs) (gaRows gs)).length) := ans_small gaB_goodT
          have e5 := ho5.len
          obtain ⟨P, hP⟩ : ∃ P, ansP (gaB gs) (gaP gs) = P := ⟨_, rfl⟩
          rw [hP]
          obtain ⟨X1, hX1⟩ : ∃ X, X = v2.alloc (.cells #[.int .i64 P, .slice r5 m5 d5] 32) := ⟨_, rfl⟩
          have bX1 : Below v2.heap.size v2 X1 := by rw [hX1]; exact (Below.refl _ _).alloc (Nat.le_refl _) _
          have x0 : X1.cell? ⟨v2.heap.size, 0, none⟩ = some (.int .i64 P) := by rw [hX1]; exact pair0 v2 _ _ _
          have x1 : X1.cell? ⟨v2.heap.size, 1, none⟩ = some (.slice r5 m5 d5) := by rw [hX1]; exact pair1 v2 _ _ _
          have C3 := C2.trans (bX1.mono C2.size)
          have HG3 := Hid.mk (HGN.out.below (hv2.trans (bX1.mono hv2.size)))
          have HO3 := Hid.mk (ho5.below bX1)
          clear ho5 HGN
          go_upto_region 18 with fail
          rw [← hX1]
          clear hX1 bX1 hv2
          go_wp2_with fail
          refine (specGroupsAsTable q k e1 gs X1 hgl (by omega) HG3.out).mono ?_
          rintro e v3 ⟨⟨r6, m6, d6, cs6, rfl, ho6⟩, hv3⟩
          have C4 := C3.trans (hv3.mono C3.size)
          rw [hP]
          obtain ⟨X2, hX2⟩ : ∃ X, X = v3.alloc (.cells #[.int .i64 P, .slice r6 m6 d6] 32) := ⟨_, rfl⟩
          have bX2 : Below v3.heap.size v3 X2 := by rw [hX2]; exact (Below.refl _ _).alloc (Nat.le_refl _) _
          have y0 : X2.cell? ⟨v3.heap.size, 0, none⟩ = some (.int .i64 P) := by rw [hX2]; exact pair0 v3 _ _ _
          have y1 : X2.cell? ⟨v3.heap.size, 1, none⟩ = some (.slice r6 m6 d6) := by rw [hX2]; exact pair1 v3 _ _ _
          replace x0 := cell_later bX2 (cell_later hv3 x0)
          replace x1 := cell_later bX2 (cell_later hv3 x1)
          have C5 := C4.trans (bX2.mono C4.size)
          have e6 := ho6.len
          obtain rfl : m6 = m5 := by omega
          have HSM2 : Hid (∀ i, i < m6 → (wat (ansT (gaB gs) (gaRows gs)) i).1.length ≤ 9223372036854775807) := fun i hi => by have h1 := HSM.out; rw [e5] at h1; exact h1.rowx i hi
          have HT := Hid.mk (((HO3.out.below hv3).below bX2).atW HSM2.out)
          have HT' := Hid.mk ((ho6.below bX2).atW HSM2.out)
          have hm6 : m6 ≤ 1048576 := by have h1 := HSM.out.n; omega
          clear ho6 HG3 HO3
          go_upto_region 19 with fail
          rw [← hX2]
          clear hX2 bX2 hv3
          have HE5 := Hid.mk e5
          have HPP := Hid.mk hP
          clear e5 e6 hP
          obtain ⟨ok9, hok9⟩ : ∃ b, gaB gs = b := ⟨_, rfl⟩
          have HOK9 := Hid.mk hok9
          rw [hok9] at HT HT' HE5 ⊢
          clear hok9
          go_wp2_with fail
          refine (same_eq r5 r6 m6 d5 d6 _ P X2 HE5.out hm6 HT.out HT'.out).mono ?_
          rintro e v4 ⟨rfl, hv4⟩
          have C6 := C5.trans (hv4.mono C5.size)
          replace x0 := cell_later hv4 x0
          replace x1 := cell_later hv4 x1
          have HT4 := Hid.mk (HT.out.below hv4)
          clear hv4 HT HT' y0 y1
          cases ok9 with
          | false =>
            have h0 : m6 = 0 := HE5.out.symm
            subst h0
            go_wp2
            go_ret
            exact ⟨rfl, C6⟩
          | true =>
            have HT5 : Hid (AtW v4 r5 (gaRows gs)) := HT4.out
            have HE6 : Hid ((gaRows gs).length = m6) := HE5.out
            have hkm : m6 = k := by rw [← HE6.out, gaRows_length]; exact hgl
            subst hkm
            have HGT : Hid (goodT P (gaRows gs) = true) := by
              have h1 := gaB_goodT HOK9.out
              have h2 := HPP.out
              rw [HOK9.out] at h2
              show goodT P _ = _
              rw [← h2]; exact h1
            have HPL := Hid.mk (gaRows_plain gs)
            clear HT4 HE5
            go_wp2_with fail
            refine (implIsPlain_any r5 m6 d5 (gaRows gs) P v4 HE6.out hm6 HT5.out).mono ?_
            rintro e v5 ⟨rfl, hv5⟩
            rw [HGT.out, HPL.out]
            have C7 := C6.trans (hv5.mono C6.size)
            replace x0 := cell_later hv5 x0
            replace x1 := cell_later hv5 x1
            go_wp2
            go_ret
            exact ⟨ret_bool (by simp), C7⟩
      | true =>
        obtain ⟨h1, h2⟩ := HQ.out rfl rfl
        subst h1 h2
        go_wp2_with fail
        refine (implRollUp r none m 0 d 0 ts [] w6 hl (by omega) rfl (by omega) HN6.out (At.nil _ _)).mono ?_
        rintro e w7 ⟨⟨r7, m7, d7, rfl, ho7⟩, hb7⟩
        have hm7 : m7 ≤ 1 := by have h1 := ho7.len; have h2 := HONE.out; omega
        have B7 := B6.trans (hb7.mono B6.size)
        clear ho7 hb7 HN6 HONE
        obtain ⟨ok7, hok7⟩ : ∃ b, rollB ts [] = b := ⟨_, rfl⟩
        rw [hok7]
        clear hok7
        have hm7' : ¬ (1 : Int) < (m7 : Int) := by omega
        cases ok7 with
        | false =>
          go_wp2_with fail
          have BX := B7
          refine (drawGroupsAsTable a' n' c' w7 hn' (HA'.out.1.below BX) (fun h0 b off e => Nat.lt_of_lt_of_le (HA'.out.2 h0 b off e) BX.size)).mono ?_
          rintro e v1 ⟨gs, q, k, e1, hgl, hk60, _, rfl, _, hgN, hv1⟩
          have HGN := Hid.mk hgN
          have C1 := BX.trans (hv1.mono BX.size)
          clear hgN hv1 BX
          go_wp2_with fail
          refine (implGroupsAsTable q k e1 gs v1 hgl (by omega) HGN.out).mono ?_
          rintro e v2 ⟨⟨r5, m5, d5, cs5, rfl, ho5⟩, hv2⟩
          have C2 := C1.trans (hv2.mono C1.size)
          have HSM : Hid (SmT (ansT (gaB gs) (gaRows gs)) (ansT (gaB gs) (gaRows gs)).length) := ans_small gaB_goodT
          have e5 := ho5.len
          obtain ⟨P, hP⟩ : ∃ P, ansP (gaB gs) (gaP gs) = P := ⟨_, rfl⟩
          rw [hP]
          obtain ⟨X1, hX1⟩ : ∃ X, X = v2.alloc (.cells #[.int .i64 P, .slice r5 m5 d5] 32) := ⟨_, rfl⟩
          have bX1 : Below v2.heap.size v2 X1 := by rw [hX1]; exact (Below.refl _ _).alloc (Nat.le_refl _) _
          have x0 : X1.cell? ⟨v2.heap.size, 0, none⟩ = some (.int .i64 P) := by rw [hX1]; exact pair0 v2 _ _ _
          have x1 : X1.cell? ⟨v2.heap.size, 1, none⟩ = some (.slice r5 m5 d5) := by rw [hX1]; exact pair1 v2 _ _ _
          have C3 := C2.trans (bX1.mono C2.size)
          have HG3 := Hid.mk (HGN.out.below (hv2.trans (bX1.mono hv2.size)))
          have HO3 := Hid.mk (ho5.below bX1)
          clear ho5 HGN
          go_upto_region 18 with fail
          rw [← hX1]
          clear hX1 bX1 hv2
          go_wp2_with fail
          refine (specGroupsAsTable q k e1 gs X1 hgl (by omega) HG3.out).mono ?_
          rintro e v3 ⟨⟨r6, m6, d6, cs6, rfl, ho6⟩, hv3⟩
          have C4 := C3.trans (hv3.mono C3.size)
          rw [hP]
          obtain ⟨X2, hX2⟩ : ∃ X, X = v3.alloc (.cells #[.int .i64 P, .slice r6 m6 d6] 32) := ⟨_, rfl⟩
          have bX2 : Below v3.heap.size v3 X2 := by rw [hX2]; exact (Below.refl _ _).alloc (Nat.le_refl _) _
          have y0 : X2.cell? ⟨v3.heap.size, 0, none⟩ = some (.int .i64 P) := by rw [hX2]; exact pair0 v3 _ _ _
          have y1 : X2.cell? ⟨v3.heap.size, 1, none⟩ = some (.slice r6 m6 d6) := by rw [hX2]; exact pair1 v3 _ _ _
          replace x0 := cell_later bX2 (cell_later hv3 x0)
          replace x1 := cell_later bX2 (cell_later hv3 x1)
          have C5 := C4.trans (bX2.mono C4.size)
          have e6 := ho6.len
          obtain rfl : m6 = m5 := by omega
          have HSM2 : Hid (∀ i, i < m6 → (wat (ansT (gaB gs) (gaRows gs)) i).1.length ≤ 9223372036854775807) := fun i hi => by have h1 := HSM.out; rw [e5] at h1; exact h1.rowx i hi
          have HT := Hid.mk (((HO3.out.below hv3).below bX2).atW HSM2.out)
          have HT' := Hid.mk ((ho6.below bX2).atW HSM2.out)
          have hm6 : m6 ≤ 1048576 := by have h1 := HSM.out.n; omega
          clear ho6 HG3 HO3
          go_upto_region 19 with fail
          rw [← hX2]
          clear hX2 bX2 hv3
          have HE5 := Hid.mk e5
          have HPP := Hid.mk hP
          clear e5 e6 hP
          obtain ⟨ok9, hok9⟩ : ∃ b, gaB gs = b := ⟨_, rfl⟩
          have HOK9 := Hid.mk hok9
          rw [hok9] at HT HT' HE5 ⊢
          clear hok9
          go_wp2_with fail
          refine (same_eq r5 r6 m6 d5 d6 _ P X2 HE5.out hm6 HT.out HT'.out).mono ?_
          rintro e v4 ⟨rfl, hv4⟩
          have C6 := C5.trans (hv4.mono C5.size)
          replace x0 := cell_later hv4 x0
          replace x1 := cell_later hv4 x1
          have HT4 := Hid.mk (HT.out.below hv4)
          clear hv4 HT HT' y0 y1
          cases ok9 with
          | false =>
            have h0 : m6 = 0 := HE5.out.symm
            subst h0
            go_wp2
            go_ret
            exact ⟨rfl, C6⟩
          | true =>
            have HT5 : Hid (AtW v4 r5 (gaRows gs)) := HT4.out
            have HE6 : Hid ((gaRows gs).length = m6) := HE5.out
            have hkm : m6 = k := by rw [← HE6.out, gaRows_length]; exact hgl
            subst hkm
            have HGT : Hid (goodT P (gaRows gs) = true) := by
              have h1 := gaB_goodT HOK9.out
              have h2 := HPP.out
              rw [HOK9.out] at h2
              show goodT P _ = _
              rw [← h2]; exact h1
            have HPL := Hid.mk (gaRows_plain gs)
            clear HT4 HE5
            go_wp2_with fail
            refine (implIsPlain_any r5 m6 d5 (gaRows gs) P v4 HE6.out hm6 HT5.out).mono ?_
            rintro e v5 ⟨rfl, hv5⟩
            rw [HGT.out, HPL.out]
            have C7 := C6.trans (hv5.mono C6.size)
            replace x0 := cell_later hv5 x0
            replace x1 := cell_later hv5 x1
            go_wp2
            go_ret
            exact ⟨ret_bool (by simp), C7⟩
        | true =>
          go_wp2_with fail
          have BX := B7
          refine (drawGroupsAsTable a' n' c' w7 hn' (HA'.out.1.below BX) (fun h0 b off e => Nat.lt_of_lt_of_le (HA'.out.2 h0 b off e) BX.size)).mono ?_
          rintro e v1 ⟨gs, q, k, e1, hgl, hk60, _, rfl, _, hgN, hv1⟩
          have HGN := Hid.mk hgN
          have C1 := BX.trans (hv1.mono BX.size)
          clear hgN hv1 BX
          go_wp2_with fail
          refine (implGroupsAsTable q k e1 gs v1 hgl (by omega) HGN.out).mono ?_
          rintro e v2 ⟨⟨r5, m5, d5, cs5, rfl, ho5⟩, hv2⟩
          have C2 := C1.trans (hv2.mono C1.size)
          have HSM : Hid (SmT (ansT (gaB gs) (gaRows gs)) (ansT (gaB gs) (gaRows gs)).length) := ans_small gaB_goodT
          have e5 := ho5.len
          obtain ⟨P, hP⟩ : ∃ P, ansP (gaB gs) (gaP gs) = P := ⟨_, rfl⟩
          rw [hP]
          obtain ⟨X1, hX1⟩ : ∃ X, X = v2.alloc (.cells #[.int .i64 P, .slice r5 m5 d5] 32) := ⟨_, rfl⟩
          have bX1 : Below v2.heap.size v2 X1 := by rw [hX1]; exact (Below.refl _ _).alloc (Nat.le_refl _) _
          have x0 : X1.cell? ⟨v2.heap.size, 0, none⟩ = some (.int .i64 P) := by rw [hX1]; exact pair0 v2 _ _ _
          have x1 : X1.cell? ⟨v2.heap.size, 1, none⟩ = some (.slice r5 m5 d5) := by rw [hX1]; exact pair1 v2 _ _ _
          have C3 := C2.trans (bX1.mono C2.size)
          have HG3 := Hid.mk (HGN.out.below (hv2.trans (bX1.mono hv2.size)))
          have HO3 := Hid.mk (ho5.below bX1)
          clear ho5 HGN
          go_upto_region 18 with fail
          rw [← hX1]
          clear hX1 bX1 hv2
          go_wp2_with fail
          refine (specGroupsAsTable q k e1 gs X1 hgl (by omega) HG3.out).mono ?_
          rintro e v3 ⟨⟨r6, m6, d6, cs6, rfl, ho6⟩, hv3⟩
          have C4 := C3.trans (hv3.mono C3.size)
          rw [hP]
          obtain ⟨X2, hX2⟩ : ∃ X, X = v3.alloc (.cells #[.int .i64 P, .slice r6 m6 d6] 32) := ⟨_, rfl⟩
          have bX2 : Below v3.heap.size v3 X2 := by rw [hX2]; exact (Below.refl _ _).alloc (Nat.le_refl _) _
          have y0 : X2.cell? ⟨v3.heap.size, 0, none⟩ = some (.int .i64 P) := by rw [hX2]; exact pair0 v3 _ _ _
          have y1 : X2.cell? ⟨v3.heap.size, 1, none⟩ = some (.slice r6 m6 d6) := by rw [hX2]; exact pair1 v3 _ _ _
          replace x0 := cell_later bX2 (cell_later hv3 x0)
          replace x1 := cell_later bX2 (cell_later hv3 x1)
          have C5 := C4.trans (bX2.mono C4.size)
          have e6 := ho6.len
          obtain rfl : m6 = m5 := by omega
          have HSM2 : Hid (∀ i, i < m6 → (wat (ansT (gaB gs) (gaRows gs)) i).1.length ≤ 9223372036854775807) := fun i hi => by have h1 := HSM.out; rw [e5] at h1; exact h1.rowx i hi
          have HT := Hid.mk (((HO3.out.below hv3).below bX2).atW HSM2.out)
          have HT' := Hid.mk ((ho6.below bX2).atW HSM2.out)
          have hm6 : m6 ≤ 1048576 := by have h1 := HSM.out.n; omega
          clear ho6 HG3 HO3
          go_upto_region 19 with fail
          rw [← hX2]
          clear hX2 bX2 hv3
          have HE5 := Hid.mk e5
          have HPP := Hid.mk hP
          clear e5 e6 hP
          obtain ⟨ok9, hok9⟩ : ∃ b, gaB gs = b := ⟨_, rfl⟩
          have HOK9 := Hid.mk hok9
          rw [hok9] at HT HT' HE5 ⊢
          clear hok9
          go_wp2_with fail
          refine (same_eq r5 r6 m6 d5 d6 _ P X2 HE5.out hm6 HT.out HT'.out).mono ?_
          rintro e v4 ⟨rfl, hv4⟩
          have C6 := C5.trans (hv4.mono C5.size)
          replace x0 := cell_later hv4 x0
          replace x1 := cell_later hv4 x1
          have HT4 := Hid.mk (HT.out.below hv4)
          clear hv4 HT HT' y0 y1
          cases ok9 with
          | false =>
            have h0 : m6 = 0 := HE5.out.symm
            subst h0
            go_wp2
            go_ret
            exact ⟨rfl, C6⟩
          | true =>
            have HT5 : Hid (AtW v4 r5 (gaRows gs)) := HT4.out
            have HE6 : Hid ((gaRows gs).length = m6) := HE5.out
            have hkm : m6 = k := by rw [← HE6.out, gaRows_length]; exact hgl
            subst hkm
            have HGT : Hid (goodT P (gaRows gs) = true) := by
              have h1 := gaB_goodT HOK9.out
              have h2 := HPP.out
              rw [HOK9.out] at h2
              show goodT P _ = _
              rw [← h2]; exact h1
            have HPL := Hid.mk (gaRows_plain gs)
            clear HT4 HE5
            go_wp2_with fail
            refine (implIsPlain_any r5 m6 d5 (gaRows gs) P v4 HE6.out hm6 HT5.out).mono ?_
            rintro e v5 ⟨rfl, hv5⟩
            rw [HGT.out, HPL.out]
            have C7 := C6.trans (hv5.mono C6.size)
            replace x0 := cell_later hv5 x0
            replace x1 := cell_later hv5 x1
            go_wp2
            go_ret
            exact ⟨ret_bool (by simp), C7⟩

end Go.Proofs.Ytlfljfmhhnoinab
