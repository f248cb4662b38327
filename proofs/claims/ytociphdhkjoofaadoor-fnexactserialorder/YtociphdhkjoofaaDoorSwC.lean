/- Contracts of impl.clash and spec.l13Clash. -/
import Derived.Test.YtociphdhkjoofaaDoorSrP
import Derived.Deep.CutBlock
namespace Go.Proofs.YtociphdhkjoofaaDoor
open Go.RowKit

theorem clB_txn {x1 x2 y1 y2 z : Int} : clB (z, x1, x2) (z, y1, y2) = false := by simp [clB]
theorem clB_item {x0 x1 x2 y0 y1 y2 : Int} (h : ¬ x2 = y2) : clB (x0, x1, x2) (y0, y1, y2) = false := by simp [clB, h]
theorem clB_kind {x0 x1 z y0 y1 : Int} (h : ¬ x0 = y0) : clB (x0, x1, z) (y0, y1, z) = (decide (x1 = 2) || decide (y1 = 2)) := by simp [clB, h]

set_option maxRecDepth 100000 in
set_option maxHeartbeats 1000000 in
theorem clash_any (x0 x1 x2 y0 y1 y2 : Int) (w : World) (hx : x1 = 1 ∨ x1 = 2) (hy : y1 = 1 ∨ y1 = 2) :
    Calls Tryd.prog 44 #[.agg #[.int .i64 x0, .int .i64 x1, .int .i64 x2], .agg #[.int .i64 y0, .int .i64 y1, .int .i64 y2]] w fun e w' => e = .returned (.bool (clB (x0, x1, x2) (y0, y1, y2))) ∧ Below w.heap.size w w' := by
  by_cases e0 : x0 = y0
  · subst e0
    have e0' : (x0 != x0) = false := by simp
    rcases hx with rfl | rfl <;> rcases hy with rfl | rfl
    · have HV := Hid.mk (clB_txn (x1 := 1) (x2 := x2) (y1 := 1) (y2 := y2) (z := x0))
      go_enter Tryd.func44, Tryd.ntmps44
      go_wp2
      go_ret
      exact ⟨ret_bool (by rw [HV.out]), ((Below.refl _ _).alloc (Nat.le_refl _) _).alloc (by simp) _⟩
    · have HV := Hid.mk (clB_txn (x1 := 1) (x2 := x2) (y1 := 2) (y2 := y2) (z := x0))
      go_enter Tryd.func44, Tryd.ntmps44
      go_wp2
      go_ret
      exact ⟨ret_bool (by rw [HV.out]), ((Below.refl _ _).alloc (Nat.le_refl _) _).alloc (by simp) _⟩
    · have HV := Hid.mk (clB_txn (x1 := 2) (x2 := x2) (y1 := 1) (y2 := y2) (z := x0))
      go_enter Tryd.func44, Tryd.ntmps44
      go_wp2
      go_ret
      exact ⟨ret_bool (by rw [HV.out]), ((Below.refl _ _).alloc (Nat.le_refl _) _).alloc (by simp) _⟩
    · have HV := Hid.mk (clB_txn (x1 := 2) (x2 := x2) (y1 := 2) (y2 := y2) (z := x0))
      go_enter Tryd.func44, Tryd.ntmps44
      go_wp2
      go_ret
      exact ⟨ret_bool (by rw [HV.out]), ((Below.refl _ _).alloc (Nat.le_refl _) _).alloc (by simp) _⟩
  · have e0' : (x0 != y0) = true := bne_iff_ne.2 e0
    by_cases e2 : x2 = y2
    · subst e2
      rcases hx with rfl | rfl <;> rcases hy with rfl | rfl
      · have HV : Hid (clB (x0, 1, x2) (y0, 1, x2) = false) := Hid.mk ((clB_kind e0).trans (rfl))
        go_enter Tryd.func44, Tryd.ntmps44
        go_wp2
        go_ret
        exact ⟨ret_bool (by rw [HV.out]), ((Below.refl _ _).alloc (Nat.le_refl _) _).alloc (by simp) _⟩
      · have HV : Hid (clB (x0, 1, x2) (y0, 2, x2) = true) := Hid.mk ((clB_kind e0).trans (rfl))
        go_enter Tryd.func44, Tryd.ntmps44
        go_wp2
        go_ret
        exact ⟨ret_bool (by rw [HV.out]), ((Below.refl _ _).alloc (Nat.le_refl _) _).alloc (by simp) _⟩
      · have HV : Hid (clB (x0, 2, x2) (y0, 1, x2) = true) := Hid.mk ((clB_kind e0).trans (rfl))
        go_enter Tryd.func44, Tryd.ntmps44
        go_wp2
        go_ret
        exact ⟨ret_bool (by rw [HV.out]), ((Below.refl _ _).alloc (Nat.le_refl _) _).alloc (by simp) _⟩
      · have HV : Hid (clB (x0, 2, x2) (y0, 2, x2) = true) := Hid.mk ((clB_kind e0).trans (rfl))
        go_enter Tryd.func44, Tryd.ntmps44
        go_wp2
        go_ret
        exact ⟨ret_bool (by rw [HV.out]), ((Below.refl _ _).alloc (Nat.le_refl _) _).alloc (by simp) _⟩
    · have e2' : (x2 == y2) = false := beq_eq_false_iff_ne.2 e2
      rcases hx with rfl | rfl <;> rcases hy with rfl | rfl
      · have HV := Hid.mk (clB_item (x0 := x0) (x1 := 1) (y0 := y0) (y1 := 1) e2)
        go_enter Tryd.func44, Tryd.ntmps44
        go_wp2
        go_ret
        exact ⟨ret_bool (by rw [HV.out]), ((Below.refl _ _).alloc (Nat.le_refl _) _).alloc (by simp) _⟩
      · have HV := Hid.mk (clB_item (x0 := x0) (x1 := 1) (y0 := y0) (y1 := 2) e2)
        go_enter Tryd.func44, Tryd.ntmps44
        go_wp2
        go_ret
        exact ⟨ret_bool (by rw [HV.out]), ((Below.refl _ _).alloc (Nat.le_refl _) _).alloc (by simp) _⟩
      · have HV := Hid.mk (clB_item (x0 := x0) (x1 := 2) (y0 := y0) (y1 := 1) e2)
        go_enter Tryd.func44, Tryd.ntmps44
        go_wp2
        go_ret
        exact ⟨ret_bool (by rw [HV.out]), ((Below.refl _ _).alloc (Nat.le_refl _) _).alloc (by simp) _⟩
      · have HV := Hid.mk (clB_item (x0 := x0) (x1 := 2) (y0 := y0) (y1 := 2) e2)
        go_enter Tryd.func44, Tryd.ntmps44
        go_wp2
        go_ret
        exact ⟨ret_bool (by rw [HV.out]), ((Below.refl _ _).alloc (Nat.le_refl _) _).alloc (by simp) _⟩

set_option maxRecDepth 100000 in
set_option maxHeartbeats 1000000 in
theorem l13Clash_any (x0 x1 x2 y0 y1 y2 : Int) (w : World) :
    Calls Tryd.prog 40 #[.agg #[.int .i64 x0, .int .i64 x1, .int .i64 x2], .agg #[.int .i64 y0, .int .i64 y1, .int .i64 y2]] w fun e w' => e = .returned (.bool (clB (x0, x1, x2) (y0, y1, y2))) ∧ Below w.heap.size w w' := by
  by_cases e0 : x0 = y0
  · subst e0
    have e0' : (x0 != x0) = false := by simp
    by_cases k1 : x1 = 2
    · subst k1
      have HV := Hid.mk (clB_txn (x1 := 2) (x2 := x2) (y1 := y1) (y2 := y2) (z := x0))
      go_enter Tryd.func40, Tryd.ntmps40
      go_wp2
      go_ret
      exact ⟨ret_bool (by rw [HV.out]), ((Below.refl _ _).alloc (Nat.le_refl _) _).alloc (by simp) _⟩
    · have k1' : (x1 == 2) = false := beq_eq_false_iff_ne.2 k1
      by_cases k2 : y1 = 2
      · subst k2
        have HV := Hid.mk (clB_txn (x1 := x1) (x2 := x2) (y1 := 2) (y2 := y2) (z := x0))
        go_enter Tryd.func40, Tryd.ntmps40
        go_wp2
        go_ret
        exact ⟨ret_bool (by rw [HV.out]), ((Below.refl _ _).alloc (Nat.le_refl _) _).alloc (by simp) _⟩
      · have k2' : (y1 == 2) = false := beq_eq_false_iff_ne.2 k2
        have HV := Hid.mk (clB_txn (x1 := x1) (x2 := x2) (y1 := y1) (y2 := y2) (z := x0))
        go_enter Tryd.func40, Tryd.ntmps40
        go_wp2
        go_ret
        exact ⟨ret_bool (by rw [HV.out]), ((Below.refl _ _).alloc (Nat.le_refl _) _).alloc (by simp) _⟩
  · have e0' : (x0 != y0) = true := bne_iff_ne.2 e0
    by_cases e2 : x2 = y2
    · subst e2
      by_cases k1 : x1 = 2
      · subst k1
        have HV : Hid (clB (x0, 2, x2) (y0, y1, x2) = true) := Hid.mk ((clB_kind e0).trans (by simp))
        go_enter Tryd.func40, Tryd.ntmps40
        go_wp2
        go_ret
        exact ⟨ret_bool (by rw [HV.out]), ((Below.refl _ _).alloc (Nat.le_refl _) _).alloc (by simp) _⟩
      · have k1' : (x1 == 2) = false := beq_eq_false_iff_ne.2 k1
        by_cases k2 : y1 = 2
        · subst k2
          have HV : Hid (clB (x0, x1, x2) (y0, 2, x2) = true) := Hid.mk ((clB_kind e0).trans (by simp))
          go_enter Tryd.func40, Tryd.ntmps40
          go_wp2
          go_ret
          exact ⟨ret_bool (by rw [HV.out]), ((Below.refl _ _).alloc (Nat.le_refl _) _).alloc (by simp) _⟩
        · have k2' : (y1 == 2) = false := beq_eq_false_iff_ne.2 k2
          have HV : Hid (clB (x0, x1, x2) (y0, y1, x2) = false) := Hid.mk ((clB_kind e0).trans (by simp [k1, k2]))
          go_enter Tryd.func40, Tryd.ntmps40
          go_wp2
          go_ret
          exact ⟨ret_bool (by rw [HV.out]), ((Below.refl _ _).alloc (Nat.le_refl _) _).alloc (by simp) _⟩
    · have e2' : (x2 == y2) = false := beq_eq_false_iff_ne.2 e2
      by_cases k1 : x1 = 2
      · subst k1
        have HV := Hid.mk (clB_item (x0 := x0) (x1 := 2) (y0 := y0) (y1 := y1) e2)
        go_enter Tryd.func40, Tryd.ntmps40
        go_wp2
        go_ret
        exact ⟨ret_bool (by rw [HV.out]), ((Below.refl _ _).alloc (Nat.le_refl _) _).alloc (by simp) _⟩
      · have k1' : (x1 == 2) = false := beq_eq_false_iff_ne.2 k1
        by_cases k2 : y1 = 2
        · subst k2
          have HV := Hid.mk (clB_item (x0 := x0) (x1 := x1) (y0 := y0) (y1 := 2) e2)
          go_enter Tryd.func40, Tryd.ntmps40
          go_wp2
          go_ret
          exact ⟨ret_bool (by rw [HV.out]), ((Below.refl _ _).alloc (Nat.le_refl _) _).alloc (by simp) _⟩
        · have k2' : (y1 == 2) = false := beq_eq_false_iff_ne.2 k2
          have HV := Hid.mk (clB_item (x0 := x0) (x1 := x1) (y0 := y0) (y1 := y1) e2)
          go_enter Tryd.func40, Tryd.ntmps40
          go_wp2
          go_ret
          exact ⟨ret_bool (by rw [HV.out]), ((Below.refl _ _).alloc (Nat.le_refl _) _).alloc (by simp) _⟩

end Go.Proofs.YtociphdhkjoofaaDoor
