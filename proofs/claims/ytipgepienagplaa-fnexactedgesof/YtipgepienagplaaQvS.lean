/- Contracts of spec.l10Var, spec.l10Vars, spec.VarsIn. -/
import Derived.Test.YtipgepienagplaaQvP
import Derived.Test.YtipgepienagplaaCloN
import Derived.Test.YtipgepienagplaaIntsR
import Derived.Deep.CutBlock
namespace Go.Proofs.Ytipgepienagplaa
open Go.RowKit

theorem l10Var_any (x : Int) (w : World) :
    Calls Try.prog 93 #[.int .i64 x] w fun e w' => e = .returned (.bool (vOk x)) ∧ w' = w := by
  by_cases h0 : 0 ≤ x
  · have hv : vOk x = decide (x < 6) := by unfold vOk; rw [decide_eq_true h0, Bool.true_and]
    rw [hv]
    go_enter Try.func93, Try.ntmps93
    go_wp2
    go_ret
    exact ⟨ret_bool (by simp), rfl⟩
  · have hv : vOk x = false := by unfold vOk; rw [decide_eq_false h0]; rfl
    rw [hv]
    go_enter Try.func93, Try.ntmps93
    go_wp2
    go_ret
    exact ⟨rfl, rfl⟩

/-- The variables of the first k atoms, and of the first j variables of the next. -/
def vsTo (zs : List Atm) (k : Nat) (ys : List Int) (j : Nat) : Nat := vset (zs.take k) ||| mk (ys.take j)
theorem vsTo_next {zs : List Atm} {k : Nat} {x : Atm} (h : zs[k]? = some x) : vsTo zs k x.2 x.2.length = vset (zs.take (k + 1)) := by
  unfold vsTo vset
  rw [flat_take zs k h, mk_append, List.take_length]

set_option maxRecDepth 100000 in
set_option maxHeartbeats 4000000 in
theorem l10Vars_any (ha : Option Addr) (hn hc : Nat) (a : Option Addr) (n c : Nat) (zs : List Atm) (w : World) (hz : zs.length = n) (hb : n ≤ 9223372036854775807) (hin : ∀ x ∈ zs, ∀ v ∈ x.2, (0 : Int) ≤ v ∧ v < 6) (hat : AtQ w a zs) :
    Calls Try.prog 94 #[.agg #[.slice ha hn hc, .slice a n c]] w fun e w' => ∃ r m d, e = .returned (.slice r m d) ∧ (bl (vset zs)).length = m ∧ w'.ownsRow w.heap.size 3 1 (.slice r m d) m ((bl (vset zs)).map (.int .i64)) ∧ Below w.heap.size w w' := by
  obtain ⟨W, hW⟩ : ∃ W, W = w.alloc (.cells #[.slice ha hn hc, .slice a n c] 34) := ⟨_, rfl⟩
  have B0 : Below w.heap.size w W := by rw [hW]; exact (Below.refl _ _).alloc (Nat.le_refl _) _
  have HZ := Hid.mk hz
  have HA := Hid.mk hat
  have HIN := Hid.mk hin
  have HE : Hid (∀ wr : World, wr.ownsRow w.heap.size 3 1 (.slice none 0 0) 0 ((bl (vset (zs.take 0))).map (.int .i64))) := fun wr => (by rw [List.take_zero, show bl (vset []) = [] by decide +kernel]; exact World.ownsRow_nil _ _ _ _)
  clear hz hat hin
  go_enter Try.func94, Try.ntmps94
  go_upto_region 3 with fail
  rw [← hW]
  clear hW
  go_loopw [3, 11] (fun p i wr => ∃ (k m : Nat) (r : Option Addr) (d : Nat), k ≤ n ∧ i = .int .i64 k ∧ p = .slice r m d ∧ (bl (vset (zs.take k))).length = m ∧ wr.ownsRow w.heap.size 3 1 (.slice r m d) m ((bl (vset (zs.take k))).map (.int .i64)) ∧ Below w.heap.size w wr) (fun _ i _ => n - (intOf i).toNat)
  case atStart => exact ⟨0, 0, none, 0, Nat.zero_le _, rfl, rfl, by rw [List.take_zero]; decide +kernel, HE.out _, B0⟩
  case round =>
    clear HE B0
    obtain ⟨k, m, r, d, hk, rfl, rfl, hm, ho, hbw⟩ := hrel
    obtain ⟨wY, rfl⟩ : ∃ x, x = wr := ⟨_, rfl⟩
    by_cases hlt : k < n
    · obtain ⟨x, hx⟩ : ∃ x, zs[k]? = some x := ⟨_, List.getElem?_eq_getElem (by have := HZ.out; omega)⟩
      obtain ⟨b, off, rfl, _, hc⟩ := AtQ.row HA.out (by have := HZ.out; omega)
      obtain ⟨ta, tn, tc, g0, g1, u1, u2, u3, _⟩ := hc k x hx
      have g0 := cell_later hbw g0
      have g1 := cell_later hbw g1
      have hki : (k : Int) < (n : Int) := by omega
      have hxin : ∀ v ∈ x.2, (0 : Int) ≤ v ∧ v < 6 := HIN.out x (List.mem_of_getElem? hx)
      have hvl : vset (zs.take k) < 64 := vset_lt (fun y hy => HIN.out y (List.mem_of_mem_take hy))
      obtain ⟨U, hU⟩ : ∃ U, U = wY.alloc (.cells #[.int .i64 x.1, .slice ta tn tc] 81) := ⟨_, rfl⟩
      have hbU : Below wY.heap.size wY U := by rw [hU]; exact (Below.refl _ _).alloc (Nat.le_refl _) _
      have HO : Hid (U.ownsRow w.heap.size 3 1 (.slice r m d) m ((bl (vsTo zs k x.2 0)).map (.int .i64))) := by
        show World.ownsRow _ _ _ _ _ _ _
        have : vsTo zs k x.2 0 = vset (zs.take k) := by simp [vsTo, mk]
        rw [this]
        exact owns_below ho hbU
      have HM : Hid ((bl (vsTo zs k x.2 0)).length = m) := by
        show _ = _
        have : vsTo zs k x.2 0 = vset (zs.take k) := by simp [vsTo, mk]
        rw [this]; exact hm
      have HU3 := Hid.mk u3
      have HU1 := Hid.mk u1
      have HX := Hid.mk hx
      have HXI := Hid.mk hxin
      have HBW := Hid.mk hbw
      have HBU := Hid.mk (hbw.trans (hbU.mono hbw.size))
      have g1' : U.cell? ⟨wY.heap.size, 1, none⟩ = some (.slice ta tn tc) := by rw [hU]; exact pair1 wY _ _ _
      clear hc u3 u1 hx hxin hm ho hbw
      go_upto_region 5 with fail
      rw [← hU]
      clear hU g0 g1
      go_wp2_with fail
      go_loopw [3, 18] (fun p i wx => ∃ (j m' : Nat) (r' : Option Addr) (d' : Nat), j ≤ tn ∧ i = .int .i64 j ∧ p = .slice r' m' d' ∧ (bl (vsTo zs k x.2 j)).length = m' ∧ wx.ownsRow w.heap.size 3 1 (.slice r' m' d') m' ((bl (vsTo zs k x.2 j)).map (.int .i64)) ∧ Below w.heap.size w wx) (fun _ i _ => tn - (intOf i).toNat)
      case atStart => exact ⟨0, m, r, d, Nat.zero_le _, rfl, rfl, HM.out, HO.out, HBU.out⟩
      case round =>
        clear HM HO HBU g1' hbU
        obtain ⟨j, m', r', d', hj, rfl, rfl, hm', ho', hbx⟩ := hrel
        obtain ⟨wX, rfl⟩ : ∃ x, x = wr := ⟨_, rfl⟩
        by_cases hjt : j < tn
        · have hAx := At.below HU3.out hbx
          obtain ⟨b', off', rfl, _, hcx⟩ := hAx.some (by have := HU1.out; omega)
          have hv := hcx j (by have := HU1.out; omega)
          have hji : (j : Int) < (tn : Int) := by omega
          have hins : insI (bl (vsTo zs k x.2 j)) (x.2.getD j 0) = bl (vsTo zs k x.2 (j + 1)) := ins_take hvl HXI.out (by have := HU1.out; omega)
          have hml : m' ≤ 2097152 := by have := bl_len (vsTo zs k x.2 j); omega
          obtain ⟨y, hy⟩ : ∃ y, y = x.2.getD j 0 := ⟨_, rfl⟩
          rw [← hy] at hv hins
          have HI := Hid.mk hins
          have HP := Hid.mk (l7Put_any w.heap.size r' m' d' (bl (vsTo zs k x.2 j)) y wX hm' hml hbx.size ho')
          have HBX := Hid.mk hbx
          clear hcx hy hins hm' ho' hbx hAx hml
          go_wp2_with fail
          refine HP.out.mono ?_
          rintro e w2 ⟨r2, m2, d2, rfl, h2, o2, b2⟩
          rw [HI.out] at h2 o2
          have HH := Hid.mk h2
          have HO2 := Hid.mk o2
          have HB2 := Hid.mk (HBX.out.trans (b2.mono HBX.out.size))
          clear h2 o2 b2 HBX HP
          go_wp2
          go_roundw
          case rel => exact ⟨j + 1, m2, r2, d2, by omega, by go_num, rfl, HH.out, HO2.out, HB2.out⟩
          case measure => simp [intOf]; omega
        · obtain rfl : j = tn := by omega
          have hvn := vsTo_next HX.out
          rw [HU1.out] at hvn
          rw [hvn] at hm' ho'
          have HM' := Hid.mk hm'
          have HO' := Hid.mk ho'
          clear hvn hm' ho'
          go_wp2
          go_roundw
          case rel => exact ⟨k + 1, m', r', d', by omega, by go_num, rfl, HM'.out, HO'.out, hbx⟩
          case measure => simp [intOf]; omega
    · obtain rfl : k = n := by omega
      rw [List.take_of_length_le (by have := HZ.out; omega)] at hm ho
      have HM := Hid.mk hm
      have HO := Hid.mk ho
      clear hm ho
      go_wp2
      go_ret
      exact ⟨r, m, d, rfl, HM.out, HO.out, hbw⟩


end Go.Proofs.Ytipgepienagplaa
