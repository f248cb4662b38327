/- Contracts of GoodTableau, the program's and the model's. -/
import Derived.Test.YthliamoeplgblaaTbP
import Derived.Test.YthliamoeplgblaaMinI
import Derived.Test.YthliamoeplgblaaSomeC
import Derived.Test.YthliamoeplgblaaGoodRow
import Derived.Test.YthliamoeplgblaaTbG
namespace Go.Proofs.Ythliamoeplgblaa
open Go.RowKit

theorem row0 (w : World) (v : Value) (t : TypeId) : (w.alloc (.cells #[v] t)).cell? ⟨w.heap.size, 0, none⟩ = some v := by simp

set_option maxRecDepth 100000 in
set_option maxHeartbeats 4000000 in
theorem implGoodTableau (p : Int) (a : Option Addr) (n c : Nat) (zss : List (List Int)) (w : World) (hz : zss.length = n) (hn : n ≤ 9223372036854775807) (ha : AtS w a zss) :
    Calls Try.prog 26 #[.agg #[.int .i64 p, .slice a n c]] w fun e w' => e = .returned (.bool (tbB p zss)) ∧ Below w.heap.size w w' := by
  obtain ⟨W, hW⟩ : ∃ W, W = w.alloc (.cells #[.int .i64 p, .slice a n c] 30) := ⟨_, rfl⟩
  have B0 : Below w.heap.size w W := by rw [hW]; exact (Below.refl _ _).alloc (Nat.le_refl _) _
  have c0 : W.cell? ⟨w.heap.size, 0, none⟩ = some (.int .i64 p) := by rw [hW]; simp
  have c1 : W.cell? ⟨w.heap.size, 1, none⟩ = some (.slice a n c) := by rw [hW]; simp
  have HZ := Hid.mk hz
  have HA := Hid.mk (ha.below B0)
  clear hz ha
  cases hs : (decide (1 ≤ p) && decide (p ≤ 6)) with
  | false =>
    have HG : Hid (tbB p zss = false) := by show _ = _; unfold tbB; rw [hs]; rfl
    go_enter Try.func26, Try.ntmps26
    go_wp2_with fail
    rw [← hW]
    clear hW
    refine (someColumns_any p _).mono ?_
    rintro e w1 ⟨rfl, hw1⟩
    obtain rfl := hw1.symm
    rw [hs]
    go_wp2
    go_ret
    exact ⟨by rw [HG.out]; rfl, B0⟩
  | true =>
  have hs' : 1 ≤ p ∧ p ≤ 6 := by simpa using hs
  by_cases h1 : n < 1
  · have h1' : (n : Int) < 1 := by omega
    have HG : Hid (tbB p zss = false) := by show _ = _; unfold tbB; rw [HZ.out, hs, decide_eq_false (by omega : ¬ 1 ≤ n)]; rfl
    clear hs'
    go_enter Try.func26, Try.ntmps26
    go_wp2_with fail
    rw [← hW]
    clear hW
    refine (someColumns_any p _).mono ?_
    rintro e w1 ⟨rfl, hw1⟩
    obtain rfl := hw1.symm
    rw [hs]
    go_wp2
    go_ret
    exact ⟨by rw [HG.out]; rfl, B0⟩
  have h1' : ¬ (n : Int) < 1 := by omega
  by_cases h2 : 8 < n
  · have h2' : (8 : Int) < (n : Int) := by omega
    have HG : Hid (tbB p zss = false) := by show _ = _; unfold tbB; rw [HZ.out, hs, decide_eq_false (by omega : ¬ n ≤ 8)]; simp
    clear hs'
    go_enter Try.func26, Try.ntmps26
    go_wp2_with fail
    rw [← hW]
    clear hW
    refine (someColumns_any p _).mono ?_
    rintro e w1 ⟨rfl, hw1⟩
    obtain rfl := hw1.symm
    rw [hs]
    go_wp2
    go_ret
    exact ⟨by rw [HG.out]; rfl, B0⟩
  have h2' : ¬ (8 : Int) < (n : Int) := by omega
  have HG : Hid (tbB p zss = (zss.drop 0).all (rowOk p)) := by
    show _ = _; unfold tbB
    rw [HZ.out, hs, decide_eq_true (by omega : 1 ≤ n), decide_eq_true (by omega : n ≤ 8)]; rfl
  have HP := Hid.mk hs'
  clear hs' h1 h2
  go_enter Try.func26, Try.ntmps26
  go_wp2_with fail
  rw [← hW]
  clear hW
  refine (someColumns_any p _).mono ?_
  rintro e w1 ⟨rfl, hw1⟩
  obtain rfl := hw1.symm
  rw [hs]
  clear hs
  go_wp2_with fail
  go_loopw [24] (fun i wr => ∃ k : Nat, k ≤ n ∧ i = .int .i64 k ∧ tbB p zss = (zss.drop k).all (rowOk p) ∧ Below W.heap.size W wr) (fun i _ => n - (intOf i).toNat)
  case atStart => exact ⟨0, Nat.zero_le _, rfl, HG.out, Below.refl _ _⟩
  case round =>
    clear HG
    obtain ⟨k, hk, rfl, hG, hbw⟩ := hrel
    have d0 := cell_later hbw c0
    have BW : Below w.heap.size w wr := B0.trans (hbw.mono B0.size)
    by_cases hlt : k < n
    · obtain ⟨b, off, rfl, hc⟩ := (HA.out.below hbw).some (by have := HZ.out; omega)
      obtain ⟨ys, hy⟩ : ∃ ys, zss[k]? = some ys := ⟨_, List.getElem?_eq_getElem (by have := HZ.out; omega)⟩
      obtain ⟨a', c', hcx, hm, hat⟩ := hc k (by have := HZ.out; omega)
      have hgk : zss.getD k [] = ys := by simp [List.getD, hy]
      rw [hgk] at hcx hat hm
      rw [all_drop hy] at hG
      obtain ⟨m, hmm⟩ : ∃ m, ys.length = m := ⟨_, rfl⟩
      rw [hmm] at hcx hm
      have hki : (k : Int) < (n : Int) := by omega
      have HG := Hid.mk hG
      have HM := Hid.mk hmm
      have hb1 : Below wr.heap.size wr (wr.alloc (.cells #[.slice a' m c'] 70)) := (Below.refl _ _).alloc (Nat.le_refl _) _
      have HY := Hid.mk (hat.below hb1)
      have B1 := BW.trans (hb1.mono BW.size)
      have e0 := cell_later hb1 d0
      have e1 := row0 wr (.slice a' m c') 70
      have HB := Hid.mk (hbw.trans (hb1.mono hbw.size))
      clear hG hmm hc hat hgk hy hbw hb1 BW c0 c1
      cases hg : good ys with
      | false =>
        have HF : Hid (tbB p zss = false) := by show _ = _; rw [HG.out]; simp [rowOk, hg]
        go_wp2_with fail
        refine (implGoodRow_any _ _ _ ys _ HM.out hm HY.out).mono ?_
        rintro e w1 ⟨rfl, hb⟩
        rw [hg]
        go_wp2
        go_ret
        exact ⟨by rw [HF.out]; rfl, B1.trans (hb.mono B1.size)⟩
      | true =>
      by_cases hl : (m : Int) = p
      · have hne : ((m : Int) != p) = false := by simp [hl]
        have HL := Hid.mk hl
        have hm1 : 1 ≤ m := by have := HP.out; omega
        clear hl
        go_wp2_with fail
        refine (implGoodRow_any _ _ _ ys _ HM.out hm HY.out).mono ?_
        rintro e w1 ⟨rfl, hb⟩
        have f0 := cell_later hb e0
        have f1 := cell_later hb e1
        have HB1 := Hid.mk (HB.out.trans (hb.mono HB.out.size))
        rw [hg]
        clear e0 e1
        go_wp2_with fail
        refine (minI_any _ _ _ ys _ HM.out hm hm1 (HY.out.below hb)).mono ?_
        rintro e w2 ⟨r, rfl, hr1, hr2, hw2⟩
        obtain rfl := hw2.symm
        have HR := Hid.mk hr1
        have HR2 := Hid.mk hr2
        clear hr1 hr2
        by_cases hr : r < 0
        · have HF : Hid (tbB p zss = false) := by
            show _ = _
            have : rowOk p ys = false := by
              obtain ⟨j, hj, ej⟩ := HR2.out
              cases hro : rowOk p ys with
              | false => rfl
              | true => have := (rowOk_cell hro j (by have := HM.out; omega)).1; omega
            rw [HG.out, this]; rfl
          go_wp2
          go_ret
          exact ⟨by rw [HF.out]; rfl, B1.trans (hb.mono B1.size)⟩
        · have HF : Hid (tbB p zss = (zss.drop (k + 1)).all (rowOk p)) := by
            show _ = _
            rw [HG.out, rowOk_of hg (by rw [HM.out]; exact HL.out) (fun j hj => by have := HR.out j (by have := HM.out; omega); omega)]; rfl
          go_wp2
          go_roundw
          case rel => exact ⟨k + 1, by omega, by go_num, HF.out, HB1.out⟩
          case measure => simp [intOf]; omega
      · have hne : ((m : Int) != p) = true := by simp [hl]
        have HF : Hid (tbB p zss = false) := by
          show _ = _
          rw [HG.out]
          have : rowOk p ys = false := by simp [rowOk, hg, HM.out, hl]
          rw [this]; rfl
        clear hl
        go_wp2_with fail
        refine (implGoodRow_any _ _ _ ys _ HM.out hm HY.out).mono ?_
        rintro e w1 ⟨rfl, hb⟩
        have f0 := cell_later hb e0
        have f1 := cell_later hb e1
        rw [hg]
        clear e0 e1
        go_wp2
        go_ret
        exact ⟨by rw [HF.out]; rfl, B1.trans (hb.mono B1.size)⟩
    · obtain rfl : k = n := by omega
      have HF : Hid (tbB p zss = true) := by show _ = _; rw [hG, List.drop_of_length_le (by have := HZ.out; omega)]; rfl
      clear hG
      go_wp2
      go_ret
      exact ⟨by rw [HF.out]; rfl, BW⟩

set_option maxRecDepth 100000 in
set_option maxHeartbeats 4000000 in
theorem specGoodTableau (p : Int) (a : Option Addr) (n c : Nat) (zss : List (List Int)) (w : World) (hz : zss.length = n) (hn : n ≤ 9223372036854775807) (ha : AtS w a zss) :
    Calls Try.prog 25 #[.agg #[.int .i64 p, .slice a n c]] w fun e w' => e = .returned (.bool (tbB p zss)) ∧ Below w.heap.size w w' := by
  obtain ⟨W, hW⟩ : ∃ W, W = w.alloc (.cells #[.int .i64 p, .slice a n c] 30) := ⟨_, rfl⟩
  have B0 : Below w.heap.size w W := by rw [hW]; exact (Below.refl _ _).alloc (Nat.le_refl _) _
  have c0 : W.cell? ⟨w.heap.size, 0, none⟩ = some (.int .i64 p) := by rw [hW]; simp
  have c1 : W.cell? ⟨w.heap.size, 1, none⟩ = some (.slice a n c) := by rw [hW]; simp
  have HZ := Hid.mk hz
  have HA := Hid.mk (ha.below B0)
  have HG : Hid (tbB p zss = ((decide (1 ≤ p) && decide (p ≤ 6)) && (decide (1 ≤ n) && decide (n ≤ 8)) && (zss.drop 0).all (rowOk p))) := by
    show _ = _; unfold tbB; rw [hz]; rfl
  clear hz ha
  go_enter Try.func25, Try.ntmps25
  go_wp2_with fail
  rw [← hW]
  clear hW
  go_loopw [10] (fun i wr => ∃ k : Nat, k ≤ n ∧ i = .int .i64 k ∧ tbB p zss = ((decide (1 ≤ p) && decide (p ≤ 6)) && (decide (1 ≤ n) && decide (n ≤ 8)) && (zss.drop k).all (rowOk p)) ∧ Below W.heap.size W wr) (fun i _ => n - (intOf i).toNat)
  case atStart => exact ⟨0, Nat.zero_le _, rfl, HG.out, Below.refl _ _⟩
  case round =>
    clear HG
    obtain ⟨k, hk, rfl, hG, hbw⟩ := hrel
    have d0 := cell_later hbw c0
    have d1 := cell_later hbw c1
    have BW : Below w.heap.size w wr := B0.trans (hbw.mono B0.size)
    by_cases hlt : k < n
    · obtain ⟨b, off, rfl, hc⟩ := (HA.out.below hbw).some (by have := HZ.out; omega)
      obtain ⟨ys, hy⟩ : ∃ ys, zss[k]? = some ys := ⟨_, List.getElem?_eq_getElem (by have := HZ.out; omega)⟩
      obtain ⟨a', c', hcx, hm, hat⟩ := hc k (by have := HZ.out; omega)
      have hgk : zss.getD k [] = ys := by simp [List.getD, hy]
      rw [hgk] at hcx hat hm
      rw [all_drop hy] at hG
      obtain ⟨m, hmm⟩ : ∃ m, ys.length = m := ⟨_, rfl⟩
      rw [hmm] at hcx hm
      have hki : (k : Int) < (n : Int) := by omega
      have HG := Hid.mk hG
      have HM := Hid.mk hmm
      have hb1 : Below wr.heap.size wr (wr.alloc (.cells #[.slice a' m c'] 70)) := (Below.refl _ _).alloc (Nat.le_refl _) _
      have HY := Hid.mk (hat.below hb1)
      have B1 := BW.trans (hb1.mono BW.size)
      have e0 := cell_later hb1 d0
      have e1 := row0 wr (.slice a' m c') 70
      have HB := Hid.mk (hbw.trans (hb1.mono hbw.size))
      have HNO : Hid (rowOk p ys = false → tbB p zss = false) := fun h => by rw [HG.out, h]; simp
      clear hG hmm hc hat hgk hy hbw hb1 BW c0 c1 d0 d1
      cases hg : good ys with
      | false =>
        have HF : Hid (tbB p zss = false) := HNO.out (by simp [rowOk, hg])
        go_wp2_with fail
        refine (specGoodRow_any _ _ _ ys _ HM.out hm HY.out).mono ?_
        rintro e w1 ⟨rfl, hb⟩
        rw [hg]
        go_wp2
        go_ret
        exact ⟨by rw [HF.out]; rfl, B1.trans (hb.mono B1.size)⟩
      | true =>
      by_cases hl : (m : Int) = p
      · have hne : ((m : Int) != p) = false := by simp [hl]
        have HL := Hid.mk hl
        clear hl
        go_wp2_with fail
        refine (specGoodRow_any _ _ _ ys _ HM.out hm HY.out).mono ?_
        rintro e w1 ⟨rfl, hb⟩
        have f0 := cell_later hb e0
        have f1 := cell_later hb e1
        have HB1 := Hid.mk (HB.out.trans (hb.mono HB.out.size))
        have HY1 := Hid.mk (HY.out.below hb)
        have B2 := B1.trans (hb.mono B1.size)
        rw [hg]
        clear e0 e1 HB HY B1
        obtain ⟨q, hq⟩ : ∃ q, q = wr.heap.size := ⟨_, rfl⟩
        go_wp2_with fail
        obtain ⟨wy, rfl⟩ : ∃ x, x = w1 := ⟨_, rfl⟩
        go_loop [28] (fun i => ∃ j : Nat, j ≤ m ∧ i = .int .i64 j ∧ ∀ t, t < j → 0 ≤ ys.getD t 0) (fun i => m - (intOf i).toNat)
        case atStart => exact ⟨0, Nat.zero_le _, rfl, fun t ht => by omega⟩
        case round =>
          obtain ⟨j, hj, rfl, hall⟩ := hrel
          by_cases hjl : j < m
          · obtain ⟨b2, off2, rfl, hb2, hc2⟩ := HY1.out.some (by have := HM.out; omega)
            have hcx2 := hc2 j (by have := HM.out; omega)
            obtain ⟨x, hx⟩ : ∃ x, x = ys.getD j 0 := ⟨_, rfl⟩
            rw [← hx] at hcx2
            have hji : (j : Int) < (m : Int) := by omega
            have HX := Hid.mk hx
            have HALL := Hid.mk hall
            clear hx hall hc2
            by_cases hx0 : x < 0
            · have HF : Hid (tbB p zss = false) := HNO.out (by
                cases hro : rowOk p ys with
                | false => rfl
                | true => have := (rowOk_cell hro j (by have := HM.out; omega)).1; have := HX.out; omega)
              go_wp2
              go_ret
              exact ⟨by rw [HF.out]; rfl, B2⟩
            · have HS : Hid (∀ t, t < j + 1 → 0 ≤ ys.getD t 0) := fun t ht => by
                by_cases e : t = j
                · subst e; have := HX.out; omega
                · exact HALL.out t (by omega)
              go_wp2
              go_round
              case rel => exact ⟨j + 1, by omega, by go_num, HS.out⟩
              case measure => simp [intOf]; omega
          · have HF : Hid (tbB p zss = ((decide (1 ≤ p) && decide (p ≤ 6)) && (decide (1 ≤ n) && decide (n ≤ 8)) && (zss.drop (k + 1)).all (rowOk p))) := by
              show _ = _
              rw [HG.out, rowOk_of hg (by rw [HM.out]; exact HL.out) (fun t ht => hall t (by have := HM.out; omega)), Bool.true_and]
            clear hall
            go_wp2
            go_roundw
            case rel => exact ⟨k + 1, by omega, by go_num, HF.out, HB1.out⟩
            case measure => simp [intOf]; omega
      · have hne : ((m : Int) != p) = true := by simp [hl]
        have HF : Hid (tbB p zss = false) := HNO.out (by simp [rowOk, hg, HM.out, hl])
        clear hl
        go_wp2_with fail
        refine (specGoodRow_any _ _ _ ys _ HM.out hm HY.out).mono ?_
        rintro e w1 ⟨rfl, hb⟩
        have f0 := cell_later hb e0
        have f1 := cell_later hb e1
        rw [hg]
        clear e0 e1
        go_wp2
        go_ret
        exact ⟨by rw [HF.out]; rfl, B1.trans (hb.mono B1.size)⟩
    · obtain rfl : k = n := by omega
      rw [List.drop_of_length_le (by have := HZ.out; omega)] at hG
      have HG := Hid.mk hG
      clear hG
      go_wp2_with fail
      refine (l1In_any p 1 6 _).mono ?_
      rintro e w1 ⟨rfl, hw1⟩
      obtain rfl := hw1.symm
      cases hs : (decide (1 ≤ p) && decide (p ≤ 6)) with
      | false =>
        have HF : Hid (tbB p zss = false) := by show _ = _; rw [HG.out, hs]; rfl
        go_wp2
        go_ret
        exact ⟨by rw [HF.out]; rfl, BW⟩
      | true =>
        have HF : Hid (tbB p zss = (decide ((1 : Int) ≤ (k : Int)) && decide ((k : Int) ≤ 8))) := by
          show _ = _
          rw [HG.out, hs]
          simp only [Bool.true_and, List.all_nil, Bool.and_true]
          congr 1 <;> (apply decide_eq_decide.2; omega)
        go_wp2_with fail
        refine (l1In_any (k : Int) 1 8 _).mono ?_
        rintro e w1 ⟨rfl, hw1⟩
        obtain rfl := hw1.symm
        go_wp2
        go_ret
        exact ⟨by rw [HF.out]; rfl, BW⟩

end Go.Proofs.Ythliamoeplgblaa
