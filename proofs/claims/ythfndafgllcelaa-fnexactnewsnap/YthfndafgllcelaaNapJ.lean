/- Contracts of the questions asked of processes and wires. -/
import Derived.Test.YthfndafgllcelaaIxPr
import Derived.Test.YthfndafgllcelaaIxWi
namespace Go.Proofs.Ythfndafgllcelaa
open Go.RowKit

/-- What is known of a slice of numbers that is read. -/
abbrev SlI (w : World) (a : Option Addr) (n c : Nat) (x : List Int) : Prop := x.length = n ∧ n ≤ 9223372036854775807 ∧ At w a x ∧ (a = none → c = 0)

set_option maxHeartbeats 1000000 in
theorem isNoProc_any (z0 z1 : Int) (b : Bool) (w : World) :
    Calls Try.prog 51 #[.agg #[.int .i64 z0, .int .i64 z1, .bool b]] w fun e w' => e = .returned (.bool (!prB (z0, z1, b))) ∧ Below w.heap.size w w' := by
  have HV : Hid (prB (z0, z1, b) = (amB z0 && amB z1 && (b || decide (z1 = 0)))) := Hid.mk rfl
  obtain ⟨W, hW⟩ : ∃ W, W = w.alloc (.cells #[.int .i64 z0, .int .i64 z1, .bool b] 64) := ⟨_, rfl⟩
  have B0 : Below w.heap.size w W := by rw [hW]; exact (Below.refl _ _).alloc (Nat.le_refl _) _
  have p1 : W.cell? ⟨w.heap.size, 1, none⟩ = some (.int .i64 z1) := by rw [hW]; simp
  have p2 : W.cell? ⟨w.heap.size, 2, none⟩ = some (.bool b) := by rw [hW]; simp
  cases h0 : amB z0 with
  | false =>
    rw [h0] at HV
    go_enter Try.func51, Try.ntmps51
    go_wp2_with fail
    rw [← hW]
    clear hW
    refine (isNoAmount_any z0 W).mono ?_
    rintro e w1 ⟨rfl, hb⟩
    rw [h0]
    go_wp2
    go_ret
    exact ⟨ret_bool (by rw [HV.out]; rfl), B0.trans (hb.mono B0.size)⟩
  | true =>
    cases h1 : amB z1 with
    | false =>
      rw [h0, h1] at HV
      go_enter Try.func51, Try.ntmps51
      go_wp2_with fail
      rw [← hW]
      clear hW
      refine (isNoAmount_any z0 W).mono ?_
      rintro e w1 ⟨rfl, hb⟩
      rw [h0]
      have B1 := B0.trans (hb.mono B0.size)
      have p1 := cell_later hb p1
      have p2 := cell_later hb p2
      go_wp2_with fail
      refine (isNoAmount_any z1 w1).mono ?_
      rintro e w2 ⟨rfl, hb2⟩
      rw [h1]
      go_wp2
      go_ret
      exact ⟨ret_bool (by rw [HV.out]; rfl), B1.trans (hb2.mono B1.size)⟩
    | true =>
      rw [h0, h1] at HV
      cases b with
      | true =>
        go_enter Try.func51, Try.ntmps51
        go_wp2_with fail
        rw [← hW]
        clear hW
        refine (isNoAmount_any z0 W).mono ?_
        rintro e w1 ⟨rfl, hb⟩
        rw [h0]
        have B1 := B0.trans (hb.mono B0.size)
        have p1 := cell_later hb p1
        have p2 := cell_later hb p2
        go_wp2_with fail
        refine (isNoAmount_any z1 w1).mono ?_
        rintro e w2 ⟨rfl, hb2⟩
        rw [h1]
        have p2 := cell_later hb2 p2
        go_wp2
        go_ret
        exact ⟨ret_bool (by rw [HV.out]; rfl), B1.trans (hb2.mono B1.size)⟩
      | false =>
        go_enter Try.func51, Try.ntmps51
        go_wp2_with fail
        rw [← hW]
        clear hW
        refine (isNoAmount_any z0 W).mono ?_
        rintro e w1 ⟨rfl, hb⟩
        rw [h0]
        have B1 := B0.trans (hb.mono B0.size)
        have p1 := cell_later hb p1
        have p2 := cell_later hb p2
        go_wp2_with fail
        refine (isNoAmount_any z1 w1).mono ?_
        rintro e w2 ⟨rfl, hb2⟩
        rw [h1]
        have p1 := cell_later hb2 p1
        have p2 := cell_later hb2 p2
        go_wp2
        go_ret
        exact ⟨ret_bool (by rw [HV.out]; by_cases e : z1 = 0 <;> simp [e]), B1.trans (hb2.mono B1.size)⟩

theorem isNotDone_any (z0 z1 : Int) (b : Bool) (w : World) :
    Calls Try.prog 62 #[.agg #[.int .i64 z0, .int .i64 z1, .bool b]] w fun e w' => e = .returned (.bool (!b)) ∧ Below w.heap.size w w' := by
  go_enter Try.func62, Try.ntmps62
  go_wp2
  go_ret
  exact ⟨rfl, (Below.refl _ _).alloc (Nat.le_refl _) _⟩
theorem isOpen_any (a0 : Option Addr) (n0 c0 : Nat) (a1 : Option Addr) (n1 c1 : Nat) (b : Bool) (w : World) :
    Calls Try.prog 64 #[.agg #[.slice a0 n0 c0, .slice a1 n1 c1, .bool b]] w fun e w' => e = .returned (.bool b) ∧ Below w.heap.size w w' := by
  go_enter Try.func64, Try.ntmps64
  go_wp2
  go_ret
  exact ⟨rfl, (Below.refl _ _).alloc (Nat.le_refl _) _⟩
theorem hasWords_any (a0 : Option Addr) (n0 c0 : Nat) (a1 : Option Addr) (n1 c1 : Nat) (b : Bool) (w : World) :
    Calls Try.prog 76 #[.agg #[.slice a0 n0 c0, .slice a1 n1 c1, .bool b]] w fun e w' => e = .returned (.bool (decide (0 < n0))) ∧ Below w.heap.size w w' := by
  by_cases h : 0 < n0
  · have h' : (0 : Int) < (n0 : Int) := by omega
    rw [decide_eq_true h]
    clear h
    go_enter Try.func76, Try.ntmps76
    go_wp2
    go_ret
    exact ⟨ret_bool (by simp <;> omega), (Below.refl _ _).alloc (Nat.le_refl _) _⟩
  · obtain rfl : n0 = 0 := by omega
    go_enter Try.func76, Try.ntmps76
    go_wp2
    go_ret
    exact ⟨rfl, (Below.refl _ _).alloc (Nat.le_refl _) _⟩
theorem isRecording_any (a0 : Option Addr) (n0 c0 : Nat) (a1 : Option Addr) (n1 c1 : Nat) (b : Bool) (w : World) :
    Calls Try.prog 54 #[.agg #[.slice a0 n0 c0, .slice a1 n1 c1, .bool b]] w fun e w' => e = .returned (.bool (b || decide (0 < n1))) ∧ Below w.heap.size w w' := by
  cases b with
  | true =>
    go_enter Try.func54, Try.ntmps54
    go_wp2
    go_ret
    exact ⟨rfl, (Below.refl _ _).alloc (Nat.le_refl _) _⟩
  | false =>
    by_cases h : 0 < n1
    · have h' : (0 : Int) < (n1 : Int) := by omega
      rw [decide_eq_true h]
      clear h
      go_enter Try.func54, Try.ntmps54
      go_wp2
      go_ret
      exact ⟨ret_bool (by simp <;> omega), (Below.refl _ _).alloc (Nat.le_refl _) _⟩
    · obtain rfl : n1 = 0 := by omega
      go_enter Try.func54, Try.ntmps54
      go_wp2
      go_ret
      exact ⟨rfl, (Below.refl _ _).alloc (Nat.le_refl _) _⟩
theorem isUsed_any (a0 : Option Addr) (n0 c0 : Nat) (a1 : Option Addr) (n1 c1 : Nat) (b : Bool) (w : World) :
    Calls Try.prog 53 #[.agg #[.slice a0 n0 c0, .slice a1 n1 c1, .bool b]] w fun e w' => e = .returned (.bool (decide (0 < n0) || (b || decide (0 < n1)))) ∧ Below w.heap.size w w' := by
  obtain ⟨W, hW⟩ : ∃ W, W = w.alloc (.cells #[.slice a0 n0 c0, .slice a1 n1 c1, .bool b] 74) := ⟨_, rfl⟩
  have B0 : Below w.heap.size w W := by rw [hW]; exact (Below.refl _ _).alloc (Nat.le_refl _) _
  have p0 : W.cell? ⟨w.heap.size, 0, none⟩ = some (.slice a0 n0 c0) := by rw [hW]; simp
  have p1 : W.cell? ⟨w.heap.size, 1, none⟩ = some (.slice a1 n1 c1) := by rw [hW]; simp
  have p2 : W.cell? ⟨w.heap.size, 2, none⟩ = some (.bool b) := by rw [hW]; simp
  have K := Hid.mk (hasWords_any a0 n0 c0 a1 n1 c1 b W)
  obtain ⟨h, hh⟩ : ∃ h, decide (0 < n0) = h := ⟨_, rfl⟩
  rw [hh] at K ⊢
  clear hh
  have K2 := Hid.mk (fun w => isRecording_any a0 n0 c0 a1 n1 c1 b w)
  obtain ⟨r, hr⟩ : ∃ r, (b || decide (0 < n1)) = r := ⟨_, rfl⟩
  rw [hr] at K2 ⊢
  clear hr
  cases h with
  | true =>
    go_enter Try.func53, Try.ntmps53
    go_wp2_with fail
    rw [← hW]
    clear hW
    refine K.out.mono ?_
    rintro e w1 ⟨rfl, hb⟩
    go_wp2
    go_ret
    exact ⟨rfl, B0.trans (hb.mono B0.size)⟩
  | false =>
    go_enter Try.func53, Try.ntmps53
    go_wp2_with fail
    rw [← hW]
    clear hW
    refine K.out.mono ?_
    rintro e w1 ⟨rfl, hb⟩
    have B1 := B0.trans (hb.mono B0.size)
    have p0 := cell_later hb p0
    have p1 := cell_later hb p1
    have p2 := cell_later hb p2
    go_wp2_with fail
    refine (K2.out w1).mono ?_
    rintro e w2 ⟨rfl, hb2⟩
    go_wp2
    go_ret
    exact ⟨rfl, B1.trans (hb2.mono B1.size)⟩

set_option maxRecDepth 100000 in
set_option maxHeartbeats 2000000 in
theorem isNoWire_any (a0 : Option Addr) (n0 c0 : Nat) (a1 : Option Addr) (n1 c1 : Nat) (b : Bool) (x0 x1 : List Int) (w : World) (h0 : SlI w a0 n0 c0 x0) (h1 : SlI w a1 n1 c1 x1) :
    Calls Try.prog 52 #[.agg #[.slice a0 n0 c0, .slice a1 n1 c1, .bool b]] w fun e w' => e = .returned (.bool (!wiB (x0, x1, b))) ∧ Below w.heap.size w w' := by
  have HV : Hid (wiB (x0, x1, b) = (decide (n0 ≤ 12) && x0.all wdB && decide (n1 ≤ 200) && x1.all stB)) := Hid.mk (by unfold wiB; simp only [h0.1, h1.1])
  obtain ⟨W, hW⟩ : ∃ W, W = w.alloc (.cells #[.slice a0 n0 c0, .slice a1 n1 c1, .bool b] 74) := ⟨_, rfl⟩
  have B0 : Below w.heap.size w W := by rw [hW]; exact (Below.refl _ _).alloc (Nat.le_refl _) _
  have p1 : W.cell? ⟨w.heap.size, 1, none⟩ = some (.slice a1 n1 c1) := by rw [hW]; simp
  by_cases q0 : 12 < n0
  · have q0' : (12 : Int) < (n0 : Int) := by omega
    have HV2 : Hid (wiB (x0, x1, b) = false) := Hid.mk (by rw [HV.out, decide_eq_false (by omega)]; rfl)
    clear h0 h1 q0 HV p1
    go_enter Try.func52, Try.ntmps52
    go_wp2
    go_ret
    exact ⟨ret_bool (by rw [HV2.out]; simp <;> omega), by rw [← hW]; exact B0⟩
  have q0' : ¬ (12 : Int) < (n0 : Int) := by omega
  have K0 := Hid.mk (containsInts_any 74 (fun x => !wdB x) (fun _ _ => rfl) isNoWord_any a0 n0 c0 x0 W h0.1 h0.2.1 (At.below h0.2.2.1 B0))
  rw [any_not] at K0
  have HN0 := Hid.mk h0.1
  have HN1 := Hid.mk h1
  rw [decide_eq_true (show n0 ≤ 12 by omega)] at HV
  clear h0 h1 q0
  cases e0 : x0.all wdB with
  | false =>
    rw [e0] at K0 HV
    go_enter Try.func52, Try.ntmps52
    go_wp2_with fail
    rw [← hW]
    clear hW
    refine K0.out.mono ?_
    rintro e w1 ⟨rfl, hb⟩
    go_wp2
    go_ret
    exact ⟨ret_bool (by rw [HV.out]; rfl), B0.trans (hb.mono B0.size)⟩
  | true =>
    rw [e0] at K0 HV
    by_cases q1 : 200 < n1
    · have q1' : (200 : Int) < (n1 : Int) := by omega
      have HV2 : Hid (wiB (x0, x1, b) = false) := Hid.mk (by rw [HV.out, decide_eq_false (show ¬ n1 ≤ 200 by omega)]; rfl)
      clear q1 HV
      go_enter Try.func52, Try.ntmps52
      go_wp2_with fail
      rw [← hW]
      clear hW
      refine K0.out.mono ?_
      rintro e w1 ⟨rfl, hb⟩
      have p1 := cell_later hb p1
      have B1 := B0.trans (hb.mono B0.size)
      go_wp2
      go_ret
      exact ⟨ret_bool (by rw [HV2.out]; simp <;> omega), B1⟩
    · have q1' : ¬ (200 : Int) < (n1 : Int) := by omega
      rw [decide_eq_true (show n1 ≤ 200 by omega)] at HV
      clear q1
      go_enter Try.func52, Try.ntmps52
      go_wp2_with fail
      rw [← hW]
      clear hW
      refine K0.out.mono ?_
      rintro e w1 ⟨rfl, hb⟩
      have p1 := cell_later hb p1
      have B1 := B0.trans (hb.mono B0.size)
      have K1 := Hid.mk (containsInts_any 75 (fun x => !stB x) (fun _ _ => rfl) isNotSent_any a1 n1 c1 x1 w1 HN1.out.1 HN1.out.2.1 (At.below HN1.out.2.2.1 B1))
      rw [any_not] at K1
      go_wp2_with fail
      refine K1.out.mono ?_
      rintro e w2 ⟨rfl, hb2⟩
      go_wp2
      go_ret
      exact ⟨ret_bool (by rw [HV.out, decide_eq_false (show ¬ (200 : Int) < (n1 : Int) by omega)]; simp), B1.trans (hb2.mono B1.size)⟩

end Go.Proofs.Ythfndafgllcelaa
