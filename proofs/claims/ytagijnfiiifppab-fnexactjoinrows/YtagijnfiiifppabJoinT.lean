/- Contract of spec.JoinRows. -/
import Derived.Test.YtagijnfiiifppabJoinS
namespace Go.Proofs.Ytagijnfiiifppab
open Go.RowKit

theorem joinOk_l1 {xs ys : List Int} {ps : List (List Int)} (hx : good xs = true) (hy : good ys = true) (hp : pairsOk ps xs.length ys.length = true) : joinOk xs ys ps = l1B xs ys ps := by
  simp [joinOk, l1B, hx, hy, hp]
theorem joinAns_l1 {xs ys : List Int} {ps : List (List Int)} (h : joinOk xs ys ps = true) : joinAns xs ys ps = l1Z xs ys ps := by
  have : pick xs (side ps 0) = pick ys (side ps 1) := by simp only [joinOk, Bool.and_eq_true, decide_eq_true_eq] at h; exact h.1.2
  simp [joinAns, h, l1Z, this]

theorem joinAns_small (xs ys : List Int) (ps : List (List Int)) : (joinAns xs ys ps).length ≤ 6 := by
  unfold joinAns
  split
  · rename_i h
    simp only [joinOk, Bool.and_eq_true, decide_eq_true_eq] at h
    exact h.2
  · simp

set_option maxHeartbeats 4000000 in
theorem specJoinRows (a b : Option Addr) (n n' c c' : Nat) (xs ys : List Int) (p : Option Addr) (l d : Nat) (ps : List (List Int)) (w : World) (hz : xs.length = n) (hz' : ys.length = n') (hl : ps.length = l) (hn : n ≤ 9223372036854775807) (hn' : n' ≤ 9223372036854775807) (hl' : l ≤ 9223372036854775807)
    (hnil : a = none → c = 0) (ha : At w a xs) (hb : At w b ys) (hp : AtS w p ps) :
    Calls Try.prog 16 #[.agg #[.slice a n c], .agg #[.slice b n' c'], .slice p l d] w fun e w' => ∃ r m d, e = .returned (.tuple #[.agg #[.slice r m d], .bool (joinOk xs ys ps)]) ∧
      (joinAns xs ys ps).length = m ∧ w'.ownsRow w.heap.size 3 1 (.slice r m d) m ((joinAns xs ys ps).map (.int .i64)) ∧ Below w.heap.size w w' := by
  obtain ⟨W, hW⟩ : ∃ W, W = ((w.alloc (.cells #[.slice a n c] 26)).alloc (.cells #[.slice b n' c'] 26)).alloc (.cells #[.slice none 0 0] 26) := ⟨_, rfl⟩
  have B : Below w.heap.size w W := by rw [hW]; exact (((Below.refl _ _).alloc (Nat.le_refl _) _).alloc (by simp) _).alloc (by simp; omega) _
  have c1 : W.cell? ⟨w.heap.size, 0, none⟩ = some (.slice a n c) := by rw [hW]; simp [go_sem]
  have c2 : W.cell? ⟨w.heap.size + 1, 0, none⟩ = some (.slice b n' c') := by rw [hW]; simp [go_sem]
  have c3 : W.cell? ⟨w.heap.size + 1 + 1, 0, none⟩ = some (.slice none 0 0) := by rw [hW]; simp [go_sem]
  have f3 : W.frozen? ⟨w.heap.size + 1 + 1, 0, none⟩ = false := by rw [hW]; simp [go_sem]
  cases hx : good xs with
  | false =>
    have HX := Hid.mk hx
    have HNO : Hid (joinOk xs ys ps = false) := by show _ = _; simp [joinOk, hx]
    clear hx
    go_enter Try.func16, Try.ntmps16
    go_wp2_with fail
    rw [← hW]
    clear hW
    refine (specGoodRow_any _ _ _ xs _ hz hn (ha.below B)).mono ?_
    rintro e w1 ⟨rfl, hb1⟩
    rw [HX.out]
    have B1 := B.trans (hb1.mono B.size)
    have d1 := cell_later hb1 c1
    have d2 := cell_later hb1 c2
    have d3 := cell_later hb1 c3
    have e3 := frozen_later hb1 c3 f3
    clear c1 c2 c3 f3 hb1
    go_wp2
    refine bodyPost_ret (v := .tuple #[.agg #[.slice none 0 0], .bool false]) (by simp [results, Try.results16, go_sem, d3]) rfl (join_no HNO.out ?_)
    exact B1.setCell (by simp; omega) _
  | true =>
    have HX := Hid.mk hx
    cases hy : good ys with
    | false =>
      have HY := Hid.mk hy
      have HNO : Hid (joinOk xs ys ps = false) := by show _ = _; simp [joinOk, hy]
      clear hx hy
      go_enter Try.func16, Try.ntmps16
      go_wp2_with fail
      rw [← hW]
      clear hW
      refine (specGoodRow_any _ _ _ xs _ hz hn (ha.below B)).mono ?_
      rintro e w1 ⟨rfl, hb1⟩
      rw [HX.out]
      have B1 := B.trans (hb1.mono B.size)
      have d1 := cell_later hb1 c1
      have d2 := cell_later hb1 c2
      have d3 := cell_later hb1 c3
      have e3 := frozen_later hb1 c3 f3
      clear c1 c2 c3 f3 hb1
      go_wp2_with fail
      refine (specGoodRow_any _ _ _ ys _ hz' hn' (hb.below B1)).mono ?_
      rintro e w2 ⟨rfl, hb2⟩
      rw [HY.out]
      have B2 := B1.trans (hb2.mono B1.size)
      have g1 := cell_later hb2 d1
      have g2 := cell_later hb2 d2
      have g3 := cell_later hb2 d3
      have h3 := frozen_later hb2 d3 e3
      clear d1 d2 d3 e3 hb2
      go_wp2
      refine bodyPost_ret (v := .tuple #[.agg #[.slice none 0 0], .bool false]) (by simp [results, Try.results16, go_sem, g3]) rfl (join_no HNO.out ?_)
      exact B2.setCell (by simp; omega) _
    | true =>
      have HY := Hid.mk hy
      cases hpo : pairsOk ps n n' with
      | false =>
        have HP := Hid.mk hpo
        have HNO : Hid (joinOk xs ys ps = false) := by show _ = _; simp [joinOk, hz, hz', hpo]
        clear hx hy hpo
        go_enter Try.func16, Try.ntmps16
        go_wp2_with fail
        rw [← hW]
        clear hW
        refine (specGoodRow_any _ _ _ xs _ hz hn (ha.below B)).mono ?_
        rintro e w1 ⟨rfl, hb1⟩
        rw [HX.out]
        have B1 := B.trans (hb1.mono B.size)
        have d1 := cell_later hb1 c1
        have d2 := cell_later hb1 c2
        have d3 := cell_later hb1 c3
        have e3 := frozen_later hb1 c3 f3
        clear c1 c2 c3 f3 hb1
        go_wp2_with fail
        refine (specGoodRow_any _ _ _ ys _ hz' hn' (hb.below B1)).mono ?_
        rintro e w2 ⟨rfl, hb2⟩
        rw [HY.out]
        have B2 := B1.trans (hb2.mono B1.size)
        have g1 := cell_later hb2 d1
        have g2 := cell_later hb2 d2
        have g3 := cell_later hb2 d3
        have h3 := frozen_later hb2 d3 e3
        clear d1 d2 d3 e3 hb2
        go_wp2_with fail
        refine (l1Pairs_any _ _ _ ps n n' _ hl hl' (hp.below B2)).mono ?_
        rintro e w3 ⟨rfl, rfl⟩
        rw [HP.out]
        go_wp2
        refine bodyPost_ret (v := .tuple #[.agg #[.slice none 0 0], .bool false]) (by simp [results, Try.results16, go_sem, g3]) rfl (join_no HNO.out ?_)
        exact B2.setCell (by simp; omega) _
      | true =>
        have HP := Hid.mk hpo
        have hj : joinOk xs ys ps = l1B xs ys ps := joinOk_l1 hx hy (by rw [hz, hz']; exact hpo)
        have HJ := Hid.mk hj
        have l1 := good_len hx
        have l2 := good_len hy
        clear hx hy hpo hj
        go_enter Try.func16, Try.ntmps16
        go_wp2_with fail
        rw [← hW]
        clear hW
        refine (specGoodRow_any _ _ _ xs _ hz hn (ha.below B)).mono ?_
        rintro e w1 ⟨rfl, hb1⟩
        rw [HX.out]
        have B1 := B.trans (hb1.mono B.size)
        have d1 := cell_later hb1 c1
        have d2 := cell_later hb1 c2
        have d3 := cell_later hb1 c3
        have e3 := frozen_later hb1 c3 f3
        clear c1 c2 c3 f3 hb1
        go_wp2_with fail
        refine (specGoodRow_any _ _ _ ys _ hz' hn' (hb.below B1)).mono ?_
        rintro e w2 ⟨rfl, hb2⟩
        rw [HY.out]
        have B2 := B1.trans (hb2.mono B1.size)
        have g1 := cell_later hb2 d1
        have g2 := cell_later hb2 d2
        have g3 := cell_later hb2 d3
        have h3 := frozen_later hb2 d3 e3
        clear d1 d2 d3 e3 hb2
        go_wp2_with fail
        refine (l1Pairs_any _ _ _ ps n n' _ hl hl' (hp.below B2)).mono ?_
        rintro e w3 ⟨rfl, rfl⟩
        rw [HP.out]
        go_wp2_with fail
        refine (l1Join_any _ _ _ _ _ _ _ _ _ xs ys ps _ hz hz' hl (by omega) (by omega) hnil (ha.below B2) (hb.below B2) (hp.below B2) HP.out).mono ?_
        rintro e w4 ⟨r4, m4, d4, rfl, hm4, o4, hb4⟩
        have hA4 : Below w4.heap.size w4 (w4.alloc (.cells #[.slice r4 m4 d4] 26)) := (Below.refl _ _).alloc (Nat.le_refl _) _
        have B4 := B2.trans (hb4.mono B2.size)
        have B5 := B4.trans (hA4.mono B4.size)
        have k3 := cell_later hA4 (cell_later hb4 g3)
        have k3f := frozen_later hA4 (cell_later hb4 g3) (frozen_later hb4 g3 h3)
        have kJ := newcell w4 (.slice r4 m4 d4) 26
        have oJ := owns_below o4 hA4
        have z3 : w.heap.size + 1 + 1 < w3.heap.size := World.block_lt_of_cell? _ _ g3
        have z4 : w.heap.size + 1 + 1 < w4.heap.size := World.block_lt_of_cell? _ _ (cell_later hb4 g3)
        have kS : ∀ v, ((w4.setCell ⟨w.heap.size + 1 + 1, 0, none⟩ v).alloc (.cells #[.slice r4 m4 d4] 26)).cell? ⟨w.heap.size + 1 + 1, 0, none⟩ = some v := fun v => cell_later ((Below.refl _ _).alloc (Nat.le_refl _) _) (cell_set (cell_later hb4 g3) v)
        have BS : ∀ v, Below w.heap.size w ((w4.setCell ⟨w.heap.size + 1 + 1, 0, none⟩ v).alloc (.cells #[.slice r4 m4 d4] 26)) := fun v => (B4.setCell (by simp; omega) v).alloc (B4.setCell (p := ⟨w.heap.size + 1 + 1, 0, none⟩) (by simp; omega) v).size _
        cases hlb : l1B xs ys ps with
        | false =>
          have HNO : Hid (joinOk xs ys ps = false) := HJ.out.trans hlb
          clear hlb
          go_wp2
          refine bodyPost_ret (v := .tuple #[.agg #[.slice none 0 0], .bool false]) (by simp [results, Try.results16, go_sem, kS]) rfl (join_no HNO.out (BS _))
        | true =>
          have HY' : Hid (joinOk xs ys ps = true) := HJ.out.trans hlb
          have HZ := Hid.mk (joinAns_l1 HY'.out)
          clear hlb
          go_wp2
          refine bodyPost_ret (v := .tuple #[.agg #[.slice r4 m4 d4], .bool true]) (by simp [results, Try.results16, go_sem, kS]) rfl ⟨r4, m4, d4, by rw [HY'.out], by rw [HZ.out]; exact hm4, ?_, BS _⟩
          rw [HZ.out]
          exact owns_mono ((ownsRow_setCell_below o4 (by simp; omega) _).alloc _) (by omega)

end Go.Proofs.Ytagijnfiiifppab
