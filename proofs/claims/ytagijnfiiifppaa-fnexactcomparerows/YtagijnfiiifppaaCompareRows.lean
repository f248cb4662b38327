/- Contracts of impl.CompareRows and spec.CompareRows. -/
import Derived.Test.YtagijnfiiifppaaCompare
namespace Go.Proofs.Ytagijnfiiifppaa
open Go.RowKit

set_option maxHeartbeats 1000000 in
theorem implCompareRows_any (a a' : Option Addr) (n n' c c' : Nat) (xs ys : List Int) (w : World) (hz : xs.length = n) (hz' : ys.length = n') (hn : n ≤ 9223372036854775807) (hn' : n' ≤ 9223372036854775807) (ha : At w a xs) (ha' : At w a' ys) :
    Calls Try.prog 10 #[.agg #[.slice a n c], .agg #[.slice a' n' c']] w fun e w' =>
      e = .returned (.tuple #[.int .i64 (if good xs && good ys then cmp xs ys else 0), .bool (good xs && good ys)]) ∧ Below w.heap.size w w' := by
  obtain ⟨W, hW⟩ : ∃ W, W = (w.alloc (.cells #[.slice a n c] 25)).alloc (.cells #[.slice a' n' c'] 25) := ⟨_, rfl⟩
  have B : Below w.heap.size w W := by rw [hW]; exact ((Below.refl _ _).alloc (Nat.le_refl _) _).alloc (by simp) _
  have HA : At W a xs := ha.below B
  have HA' : At W a' ys := ha'.below B
  have c1 : W.cell? ⟨w.heap.size, 0, none⟩ = some (.slice a n c) := by rw [hW]; simp
  have c2 : W.cell? ⟨w.heap.size + 1, 0, none⟩ = some (.slice a' n' c') := by rw [hW]; simp
  cases hg : good xs with
  | false =>
    have HG : Hid (good xs = false) := hg
    clear hg ha ha'
    go_enter Try.func10, Try.ntmps10
    go_wp2_with fail
    rw [← hW]
    refine (implGoodRow_any _ _ _ xs _ hz hn HA).mono ?_
    rintro e w1 ⟨rfl, hb1⟩
    rw [HG.out]
    clear hW
    go_wp2
    go_ret2
    exact ⟨by simp, B.trans (hb1.mono B.size)⟩
  | true =>
    have HG : Hid (good xs = true) := hg
    cases hg' : good ys with
    | false =>
      have HG' : Hid (good ys = false) := hg'
      clear hg hg' ha ha'
      go_enter Try.func10, Try.ntmps10
      go_wp2_with fail
      rw [← hW]
      refine (implGoodRow_any _ _ _ xs _ hz hn HA).mono ?_
      rintro e w1 ⟨rfl, hb1⟩
      rw [HG.out]
      have d2 := cell_later hb1 c2
      clear hW
      go_wp2_with fail
      refine (implGoodRow_any _ _ _ ys _ hz' hn' (HA'.below hb1)).mono ?_
      rintro e w2 ⟨rfl, hb2⟩
      rw [HG'.out]
      go_wp2
      go_ret2
      have B1 := B.trans (hb1.mono B.size)
      exact ⟨by simp, B1.trans (hb2.mono B1.size)⟩
    | true =>
      have HG' : Hid (good ys = true) := hg'
      have gx := fun k (hk : k < n) => good_cell hg k (by omega)
      have gy := fun k (hk : k < n') => good_cell hg' k (by omega)
      have l1 := good_len hg
      have l2 := good_len hg'
      have HM := cmp_raised hg hg'
      clear hg hg' ha ha'
      go_enter Try.func10, Try.ntmps10
      go_wp2_with fail
      rw [← hW]
      refine (implGoodRow_any _ _ _ xs _ hz hn HA).mono ?_
      rintro e w1 ⟨rfl, hb1⟩
      rw [HG.out]
      have d1 := cell_later hb1 c1
      have d2 := cell_later hb1 c2
      have B1 := B.trans (hb1.mono B.size)
      have HA1 := HA.below hb1
      have HA1' := HA'.below hb1
      clear hW HA HA' hb1 c1 c2 B
      go_wp2_with fail
      refine (implGoodRow_any _ _ _ ys _ hz' hn' HA1').mono ?_
      rintro e w2 ⟨rfl, hb2⟩
      rw [HG'.out]
      have e1 := cell_later hb2 d1
      have e2 := cell_later hb2 d2
      have B2 := B1.trans (hb2.mono B1.size)
      have HA2 := HA1.below hb2
      have HA2' := HA1'.below hb2
      clear HA1 HA1' hb2 d1 d2 B1
      have H6 : Hid (cmp (raised xs) (raised ys) = cmp xs ys) := HM
      clear HM
      go_wp2_with fail
      go_region_held3 (fun w' => w'.cell? ⟨w.heap.size, 0, none⟩ = some (.slice a n c) ∧ w'.cell? ⟨w.heap.size + 1, 0, none⟩ = some (.slice a' n' c')) (refine ⟨?_, ?_⟩ <;> assumption)
        (first
          | (go_at_call_of 35 (Value.slice a n c); refine (arrayOf_any _ _ _ xs _ hz (by omega) gx HA2.drew).mono ?_; rintro e w3 ⟨x0, x1, x2, x3, x4, x5, rfl, hx, hb3⟩; have e3 := cell_later hb3 e1; have e4 := cell_later hb3 e2)
          | (go_at_call_of 35 (Value.slice a' n' c'); refine (arrayOf_any _ _ _ ys _ hz' (by omega) gy (HA2'.drew.below hb3)).mono ?_; rintro e w4 ⟨y0, y1, y2, y3, y4, y5, rfl, hy, hb4⟩; have e5 := cell_later hb4 e3; have e6 := cell_later hb4 e4)
          | (go_at_call 34; refine (compareArrays_any _ _ _ _ _ _ _ _ _ _ _ _ _ _ hx hy _).mono ?_; rintro e w5 ⟨rfl, hb5⟩; have e7 := cell_later hb5 e5; have e8 := cell_later hb5 e6))
      go_wp2
      go_ret2
      have B3 := B2.drew.trans (hb3.mono B2.size)
      have B4 := B3.trans (hb4.mono B3.size)
      exact ⟨ret_ib (by first | exact H6.out | (rw [← hx, ← hy]; exact H6.out)) rfl, B4.trans (hb5.mono B4.size)⟩

set_option maxHeartbeats 1000000 in
theorem specCompareRows_any (a a' : Option Addr) (n n' c c' : Nat) (xs ys : List Int) (w : World) (hz : xs.length = n) (hz' : ys.length = n') (hn : n ≤ 9223372036854775807) (hn' : n' ≤ 9223372036854775807) (ha : At w a xs) (ha' : At w a' ys) :
    Calls Try.prog 11 #[.agg #[.slice a n c], .agg #[.slice a' n' c']] w fun e w' =>
      e = .returned (.tuple #[.int .i64 (if good xs && good ys then cmp xs ys else 0), .bool (good xs && good ys)]) ∧ Below w.heap.size w w' := by
  obtain ⟨W, hW⟩ : ∃ W, W = (w.alloc (.cells #[.slice a n c] 25)).alloc (.cells #[.slice a' n' c'] 25) := ⟨_, rfl⟩
  have B : Below w.heap.size w W := by rw [hW]; exact ((Below.refl _ _).alloc (Nat.le_refl _) _).alloc (by simp) _
  have HA : At W a xs := ha.below B
  have HA' : At W a' ys := ha'.below B
  have c1 : W.cell? ⟨w.heap.size, 0, none⟩ = some (.slice a n c) := by rw [hW]; simp
  have c2 : W.cell? ⟨w.heap.size + 1, 0, none⟩ = some (.slice a' n' c') := by rw [hW]; simp
  cases hg : good xs with
  | false =>
    have HG : Hid (good xs = false) := hg
    clear hg ha ha'
    go_enter Try.func11, Try.ntmps11
    go_wp2_with fail
    rw [← hW]
    refine (specGoodRow_any _ _ _ xs _ hz hn HA).mono ?_
    rintro e w1 ⟨rfl, hb1⟩
    rw [HG.out]
    clear hW
    go_wp2
    go_ret2
    exact ⟨by simp, B.trans (hb1.mono B.size)⟩
  | true =>
    have HG : Hid (good xs = true) := hg
    cases hg' : good ys with
    | false =>
      have HG' : Hid (good ys = false) := hg'
      clear hg hg' ha ha'
      go_enter Try.func11, Try.ntmps11
      go_wp2_with fail
      rw [← hW]
      refine (specGoodRow_any _ _ _ xs _ hz hn HA).mono ?_
      rintro e w1 ⟨rfl, hb1⟩
      rw [HG.out]
      have d2 := cell_later hb1 c2
      clear hW
      go_wp2_with fail
      refine (specGoodRow_any _ _ _ ys _ hz' hn' (HA'.below hb1)).mono ?_
      rintro e w2 ⟨rfl, hb2⟩
      rw [HG'.out]
      go_wp2
      go_ret2
      have B1 := B.trans (hb1.mono B.size)
      exact ⟨by simp, B1.trans (hb2.mono B1.size)⟩
    | true =>
      have HG' : Hid (good ys = true) := hg'
      have l1 := good_len hg
      have l2 := good_len hg'
      clear hg hg' ha ha'
      go_enter Try.func11, Try.ntmps11
      go_wp2_with fail
      rw [← hW]
      refine (specGoodRow_any _ _ _ xs _ hz hn HA).mono ?_
      rintro e w1 ⟨rfl, hb1⟩
      rw [HG.out]
      have d1 := cell_later hb1 c1
      have d2 := cell_later hb1 c2
      have B1 := B.trans (hb1.mono B.size)
      have HA1 := HA.below hb1
      have HA1' := HA'.below hb1
      clear hW HA HA' hb1 c1 c2 B
      go_wp2_with fail
      refine (specGoodRow_any _ _ _ ys _ hz' hn' HA1').mono ?_
      rintro e w2 ⟨rfl, hb2⟩
      rw [HG'.out]
      have e1 := cell_later hb2 d1
      have e2 := cell_later hb2 d2
      have B2 := B1.trans (hb2.mono B1.size)
      have HA2 := HA1.below hb2
      have HA2' := HA1'.below hb2
      clear HA1 HA1' hb2 d1 d2 B1
      go_wp2_with fail
      refine (l1Compare_any _ _ _ _ _ _ xs ys _ hz hz' (by omega) (by omega) HA2 HA2').mono ?_
      rintro e w3 ⟨rfl, hb3⟩
      go_wp2
      go_ret2
      exact ⟨ret_ib rfl rfl, B2.trans (hb3.mono B2.size)⟩

end Go.Proofs.Ytagijnfiiifppaa
