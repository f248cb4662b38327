/- Several texts of one proof, in build order: EdS, QvI. -/
import Derived.Test.YteggbamjfhbmfaaM6
import Derived.Deep.CutBlock
import Derived.Test.YteggbamjfhbmfaaM5

/- Contracts of spec.l11Edge, spec.EdgesOf. -/
namespace Go.Proofs.Yteggbamjfhbmfaa
open Go.RowKit

set_option maxRecDepth 100000 in
set_option maxHeartbeats 4000000 in
theorem l11Edge_any (p : Int) (a : Option Addr) (n c : Nat) (zs : List Int) (w : World) (hz : zs.length = n) (hb : n ≤ 9223372036854775807) (hin : ∀ v ∈ zs, (0 : Int) ≤ v ∧ v < 6) (hat : At w a zs) :
    Calls Try.prog 80 #[.agg #[.int .i64 p, .slice a n c]] w fun e w' => ∃ r m d, e = .returned (.slice r m d) ∧ (bl (mk zs)).length = m ∧ w'.ownsRow w.heap.size 3 1 (.slice r m d) m ((bl (mk zs)).map (.int .i64)) ∧ Below w.heap.size w w' := by
  obtain ⟨W, hW⟩ : ∃ W, W = w.alloc (.cells #[.int .i64 p, .slice a n c] 76) := ⟨_, rfl⟩
  have B0 : Below w.heap.size w W := by rw [hW]; exact (Below.refl _ _).alloc (Nat.le_refl _) _
  have q1 : W.cell? ⟨w.heap.size, 1, none⟩ = some (.slice a n c) := by rw [hW]; exact pair1 w _ _ _
  have HZ := Hid.mk hz
  have HA := Hid.mk hat
  have HIN := Hid.mk hin
  have HE : Hid (∀ wr : World, wr.ownsRow w.heap.size 3 1 (.slice none 0 0) 0 ((bl (mk (zs.take 0))).map (.int .i64))) := fun wr => (by rw [List.take_zero, show bl (mk []) = [] by decide +kernel]; exact World.ownsRow_nil _ _ _ _)
  clear hz hat hin
  go_enter Try.func80, Try.ntmps80
  go_upto_region 1 with fail
  rw [← hW]
  clear hW
  go_wp2_with fail
  go_loopw [3, 9] (fun p i wr => ∃ (k m : Nat) (r : Option Addr) (d : Nat), k ≤ n ∧ i = .int .i64 k ∧ p = .slice r m d ∧ (bl (mk (zs.take k))).length = m ∧ wr.ownsRow w.heap.size 3 1 (.slice r m d) m ((bl (mk (zs.take k))).map (.int .i64)) ∧ Below w.heap.size w wr) (fun _ i _ => n - (intOf i).toNat)
  case atStart => exact ⟨0, 0, none, 0, Nat.zero_le _, rfl, rfl, by rw [List.take_zero]; decide +kernel, HE.out _, B0⟩
  case round =>
    clear HE B0 q1
    obtain ⟨j, m', r', d', hj, rfl, rfl, hm', ho', hbx⟩ := hrel
    obtain ⟨wX, rfl⟩ : ∃ x, x = wr := ⟨_, rfl⟩
    by_cases hjt : j < n
    · have hAx := At.below HA.out hbx
      obtain ⟨b', off', rfl, _, hcx⟩ := hAx.some (by have := HZ.out; omega)
      have hv := hcx j (by have := HZ.out; omega)
      have hji : (j : Int) < (n : Int) := by omega
      have hins : insI (bl (mk (zs.take j))) (zs.getD j 0) = bl (mk (zs.take (j + 1))) := by
        have h9 := ins_take (s := 0) (by omega) HIN.out (show j < zs.length by have := HZ.out; omega)
        simpa using h9
      have hml : m' ≤ 2097152 := by have := bl_len (mk (zs.take j)); omega
      obtain ⟨y, hy⟩ : ∃ y, y = zs.getD j 0 := ⟨_, rfl⟩
      rw [← hy] at hv hins
      have HI := Hid.mk hins
      have HP := Hid.mk (l7Put_any w.heap.size r' m' d' (bl (mk (zs.take j))) y wX hm' hml hbx.size ho')
      have HBX := Hid.mk hbx
      clear hcx hy hins hm' ho' hbx hAx hml
      go_wp2_with fail
      refine HP.out.mono ?_
      rintro e w2 ⟨r2, m2, d2, rfl, h2, o2, b2⟩
      rw [HI.out] at h2 o2
      have HH := Hid.mk h2
      have HO2 := Hid.mk o2
      have HB2 := Hid.mk (HBX.out.trans (b2.mono HBX.out.size))
      clear h2 o2 b2 HBX HP
      go_wp2
      go_roundw
      case rel => exact ⟨j + 1, m2, r2, d2, by omega, by go_num, rfl, HH.out, HO2.out, HB2.out⟩
      case measure => simp [intOf]; omega
    · obtain rfl : j = n := by omega
      rw [List.take_of_length_le (by have := HZ.out; omega)] at hm' ho'
      have HM := Hid.mk hm'
      have HO := Hid.mk ho'
      clear hm' ho'
      go_wp2
      go_ret
      exact ⟨r', m', d', rfl, HM.out, HO.out, hbx⟩

end Go.Proofs.Yteggbamjfhbmfaa

/- Contracts of impl.isNoVariable, of slices.IndexFunc and slices.ContainsFunc at it. -/
namespace Go.Proofs.Yteggbamjfhbmfaa
open Go.RowKit

theorem isNoVariable_any (x : Int) (w : World) :
    Calls Try.prog 90 #[.int .i64 x] w fun e w' => e = .returned (.bool (!vOk x)) ∧ w' = w := by
  by_cases h0 : x < 0
  · have hv : vOk x = false := by unfold vOk; rw [decide_eq_false (by omega)]; rfl
    rw [hv]
    go_enter Try.func90, Try.ntmps90
    go_wp2
    go_ret
    exact ⟨rfl, rfl⟩
  · by_cases h1 : x < 6
    · have hv : vOk x = true := vOk_iff.2 ⟨by omega, h1⟩
      have h2 : ¬ (6 : Int) ≤ x := by omega
      rw [hv]
      go_enter Try.func90, Try.ntmps90
      go_wp2
      go_ret
      exact ⟨ret_bool (by simp <;> omega), rfl⟩
    · have hv : vOk x = false := by unfold vOk; rw [decide_eq_false h1, Bool.and_false]
      rw [hv]
      go_enter Try.func90, Try.ntmps90
      go_wp2
      go_ret
      exact ⟨ret_bool (by simp <;> omega), rfl⟩


set_option maxHeartbeats 1000000 in
theorem indexNoVar_any (a : Option Addr) (n c : Nat) (zs : List Int) (w : World) (hz : zs.length = n) (hn : n ≤ 9223372036854775807) (ha : At w a zs) :
    Calls Try.prog 75 #[.slice a n c, .func (.func 90) #[] #[]] w fun e w' => ∃ k : Int, e = .returned (.int .i64 k) ∧ (zs.all vOk = true → k = -1) ∧ (zs.all vOk = false → 0 ≤ k) ∧ w' = w := by
  by_cases h0 : n = 0
  · subst h0
    obtain rfl := List.eq_nil_of_length_eq_zero hz
    go_enter Try.func75, Try.ntmps75
    go_wp2
    refine wp_loop_rounds 1 ?_
    rw [rounds_succ]
    go_wp2
    go_ret
    exact ⟨-1, rfl, fun _ => rfl, fun h => (by cases h), rfl⟩
  · obtain ⟨b, off, rfl, hb, hc⟩ := ha.some (by omega)
    clear ha
    go_enter Try.func75, Try.ntmps75
    go_wp2
    go_loopw [8] (fun i wr => ∃ (k : Nat), k ≤ n ∧ i = .int .i64 k ∧ zs.all vOk = (zs.drop k).all vOk ∧ wr = w) (fun i _ => n - (intOf i).toNat)
    case atStart => exact ⟨0, Nat.zero_le _, rfl, rfl, rfl⟩
    case round =>
      obtain ⟨k, hk, rfl, ht, rfl⟩ := hrel
      by_cases hlt : k < n
      · have hcx : wr.cell? ⟨b, off + k, none⟩ = some (.int .i64 (zs.getD k 0)) := hc k (by omega)
        have hd : zs.drop k = zs.getD k 0 :: zs.drop (k + 1) := by rw [List.drop_eq_getElem_cons (by omega)]; simp [List.getD, show k < zs.length by omega]
        rw [hd] at ht
        obtain ⟨y, hy⟩ : ∃ y, y = zs.getD k 0 := ⟨_, rfl⟩
        rw [← hy, List.all_cons] at ht
        rw [← hy] at hcx
        have HT := Hid.mk ht
        clear hc hy ht hd
        cases hr : vOk y with
        | false =>
          go_wp2_with fail
          refine (isNoVariable_any y wr).mono ?_
          rintro e w1 ⟨rfl, rfl⟩
          rw [hr]
          go_wp2
          go_ret
          exact ⟨k, rfl, fun h => (by rw [HT.out, hr] at h; cases h), fun _ => (by omega), rfl⟩
        | true =>
          go_wp2_with fail
          refine (isNoVariable_any y wr).mono ?_
          rintro e w1 ⟨rfl, rfl⟩
          rw [hr]
          go_wp2
          go_roundw
          case rel => exact ⟨k + 1, by omega, by go_num, by rw [HT.out, hr]; rfl, trivial⟩
          case measure => simp [intOf]; omega
      · rw [List.drop_of_length_le (by omega)] at ht
        have HT := Hid.mk ht
        clear ht
        go_wp2
        go_ret
        exact ⟨-1, rfl, fun _ => rfl, fun h => (by rw [HT.out] at h; cases h), rfl⟩

theorem noVars_any (a : Option Addr) (n c : Nat) (zs : List Int) (w : World) (hz : zs.length = n) (hn : n ≤ 9223372036854775807) (ha : At w a zs) :
    Calls Try.prog 89 #[.slice a n c, .func (.func 90) #[] #[]] w fun e w' => e = .returned (.bool (!zs.all vOk)) ∧ w' = w := by
  have HC := Hid.mk (indexNoVar_any a n c zs w hz hn ha)
  clear ha hz
  cases hr : zs.all vOk with
  | false =>
    rw [hr] at HC
    go_enter Try.func89, Try.ntmps89
    go_wp2_with fail
    refine HC.out.mono ?_
    rintro e w1 ⟨k, rfl, _, h2, rfl⟩
    have hk := h2 trivial
    go_wp2
    go_ret
    exact ⟨ret_bool (by simp <;> omega), rfl⟩
  | true =>
    rw [hr] at HC
    go_enter Try.func89, Try.ntmps89
    go_wp2_with fail
    refine HC.out.mono ?_
    rintro e w1 ⟨k, rfl, h1, _, rfl⟩
    obtain rfl := h1 trivial
    go_wp2
    go_ret
    exact ⟨rfl, rfl⟩

end Go.Proofs.Yteggbamjfhbmfaa
