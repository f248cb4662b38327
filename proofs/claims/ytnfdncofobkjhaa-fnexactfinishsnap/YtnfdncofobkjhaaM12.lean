/- Several texts of one proof, in build order: IxWi, NapJ, NapK. -/
import Derived.Test.YtnfdncofobkjhaaM9
import Derived.Test.YtnfdncofobkjhaaM11
import Derived.Deep.CutBlock

/- slices.IndexFunc, slices.ContainsFunc at Wire, whatever function is asked. -/
namespace Go.Proofs.Ytnfdncofobkjhaa
open Go.RowKit

set_option maxRecDepth 100000 in
set_option maxHeartbeats 8000000 in
theorem indexWire_any (F : Nat) (P : TWire → Bool) (hE : ∀ (args : Array Value) (w : World), (callFunc F args).run Try.prog w = .ok (.enter F args) w) (hF : ∀ (a0 : Option Addr) (n0 : Nat) (c0 : Nat) (a1 : Option Addr) (n1 : Nat) (c1 : Nat) (bo2 : Bool) (x0 : List Int) (x1 : List Int) (w : World), (x0.length = n0 ∧ n0 ≤ 9223372036854775807 ∧ At w a0 x0 ∧ (a0 = none → c0 = 0)) → (x1.length = n1 ∧ n1 ≤ 9223372036854775807 ∧ At w a1 x1 ∧ (a1 = none → c1 = 0)) → Calls Try.prog F #[.agg #[.slice a0 n0 c0, .slice a1 n1 c1, .bool bo2]] w fun e w' => e = .returned (.bool (P (x0, x1, bo2))) ∧ Below w.heap.size w w') (a : Option Addr) (n c : Nat) (xs : List TWire) (w : World) (hz : xs.length = n) (hn : n ≤ 9223372036854775807) (ha : AtSl RWire w a xs) :
    Calls Try.prog 77 #[.slice a n c, .func (.func F) #[] #[]] w fun e w' => e = .returned (.int .i64 (ixF P xs)) ∧ Below w.heap.size w w' := by
  have HF := Hid.mk hF
  have HZ := Hid.mk hz
  have HA := Hid.mk ha
  clear hF ha hz
  go_enter Try.func77, Try.ntmps77
  go_wp2
  go_loopw [8] (fun i wr => ∃ (k : Nat), k ≤ n ∧ i = .int .i64 k ∧ (∀ (j : Nat) (y : TWire), j < k → xs[j]? = some y → P y = false) ∧ Below w.heap.size w wr) (fun i _ => n - (intOf i).toNat)
  case atStart => exact ⟨0, Nat.zero_le _, rfl, fun j y hj => by omega, Below.refl _ _⟩
  case round =>
    obtain ⟨k, hk, rfl, ht, hbw⟩ := hrel
    obtain ⟨wY, rfl⟩ : ∃ x, x = wr := ⟨_, rfl⟩
    by_cases hlt : k < n
    · obtain ⟨b, off, rfl, hb, hc⟩ := RWire.row (AtSl.below HA.out hbw) (by have := HZ.out; omega)
      obtain ⟨⟨x0, x1, bo2⟩, hy⟩ : ∃ y, xs[k]? = some y := ⟨_, List.getElem?_eq_getElem (by have := HZ.out; omega)⟩
      obtain ⟨a0, n0, c0, a1, n1, c1, g0, g1, g2, u0, u1⟩ := hc k _ hy
      have K := Hid.mk (HF.out a0 n0 c0 a1 n1 c1 bo2 x0 x1 wY u0 u1)
      have HT := Hid.mk ht
      have HY := Hid.mk hy
      have HBW := Hid.mk hbw
      have hki : (k : Int) < (n : Int) := by omega
      clear hc hy ht hbw u0 u1
      cases hr : P (x0, x1, bo2) with
      | true =>
        rw [hr] at K
        go_wp2_with fail
        refine K.out.mono ?_
        rintro e w3 ⟨rfl, hb3⟩
        have HB3 := Hid.mk (HBW.out.trans (hb3.mono HBW.out.size))
        clear hb3 K
        go_wp2
        go_ret
        exact ⟨ret_int (ixF_hit HY.out hr HT.out).symm, HB3.out⟩
      | false =>
        rw [hr] at K
        go_wp2_with fail
        refine K.out.mono ?_
        rintro e w3 ⟨rfl, hb3⟩
        have HB3 := Hid.mk (HBW.out.trans (hb3.mono HBW.out.size))
        clear hb3 K
        go_wp2
        go_roundw
        case rel => exact ⟨k + 1, by omega, by go_num, fun j z hj hz => by
          by_cases e : j = k
          · subst e; rw [HY.out] at hz; cases hz; exact hr
          · exact HT.out j z (by omega) hz, HB3.out⟩
        case measure => simp [intOf]; omega
    · have HT := Hid.mk ht
      clear ht
      go_wp2
      go_ret
      exact ⟨ret_int (ixF_none (n := k) (by have := HZ.out; omega) HT.out).symm, hbw⟩

set_option maxRecDepth 100000 in
set_option maxHeartbeats 8000000 in
theorem containsWire_any (F : Nat) (P : TWire → Bool) (hE : ∀ (args : Array Value) (w : World), (callFunc F args).run Try.prog w = .ok (.enter F args) w) (hF : ∀ (a0 : Option Addr) (n0 : Nat) (c0 : Nat) (a1 : Option Addr) (n1 : Nat) (c1 : Nat) (bo2 : Bool) (x0 : List Int) (x1 : List Int) (w : World), (x0.length = n0 ∧ n0 ≤ 9223372036854775807 ∧ At w a0 x0 ∧ (a0 = none → c0 = 0)) → (x1.length = n1 ∧ n1 ≤ 9223372036854775807 ∧ At w a1 x1 ∧ (a1 = none → c1 = 0)) → Calls Try.prog F #[.agg #[.slice a0 n0 c0, .slice a1 n1 c1, .bool bo2]] w fun e w' => e = .returned (.bool (P (x0, x1, bo2))) ∧ Below w.heap.size w w') (a : Option Addr) (n c : Nat) (xs : List TWire) (w : World) (hz : xs.length = n) (hn : n ≤ 9223372036854775807) (ha : AtSl RWire w a xs) :
    Calls Try.prog 80 #[.slice a n c, .func (.func F) #[] #[]] w fun e w' => e = .returned (.bool (xs.any P)) ∧ Below w.heap.size w w' := by
  have K := Hid.mk (indexWire_any F P hE hF a n c xs w hz hn ha)
  rw [← ixF_ge P xs]
  obtain ⟨q, hq⟩ : ∃ q, ixF P xs = q := ⟨_, rfl⟩
  rw [hq] at K ⊢
  clear ha hz hF hE hq
  go_enter Try.func80, Try.ntmps80
  go_wp2_with fail
  refine K.out.mono ?_
  rintro e w2 ⟨rfl, hb⟩
  clear K
  go_wp2
  go_ret
  exact ⟨rfl, hb⟩

end Go.Proofs.Ytnfdncofobkjhaa

/- Contracts of the questions asked of processes and wires. -/
namespace Go.Proofs.Ytnfdncofobkjhaa
open Go.RowKit

/-- What is known of a slice of numbers that is read. -/
abbrev SlI (w : World) (a : Option Addr) (n c : Nat) (x : List Int) : Prop := x.length = n ∧ n ≤ 9223372036854775807 ∧ At w a x ∧ (a = none → c = 0)

set_option maxHeartbeats 1000000 in
theorem isNoProc_any (z0 z1 : Int) (b : Bool) (w : World) :
    Calls Try.prog 59 #[.agg #[.int .i64 z0, .int .i64 z1, .bool b]] w fun e w' => e = .returned (.bool (!prB (z0, z1, b))) ∧ Below w.heap.size w w' := by
  have HV : Hid (prB (z0, z1, b) = (amB z0 && amB z1 && (b || decide (z1 = 0)))) := Hid.mk rfl
  obtain ⟨W, hW⟩ : ∃ W, W = w.alloc (.cells #[.int .i64 z0, .int .i64 z1, .bool b] 74) := ⟨_, rfl⟩
  have B0 : Below w.heap.size w W := by rw [hW]; exact (Below.refl _ _).alloc (Nat.le_refl _) _
  have p1 : W.cell? ⟨w.heap.size, 1, none⟩ = some (.int .i64 z1) := by rw [hW]; simp
  have p2 : W.cell? ⟨w.heap.size, 2, none⟩ = some (.bool b) := by rw [hW]; simp
  cases h0 : amB z0 with
  | false =>
    rw [h0] at HV
    go_enter Try.func59, Try.ntmps59
    go_wp2_with fail
    rw [← hW]
    clear hW
    refine (isNoAmount_any z0 W).mono ?_
    rintro e w1 ⟨rfl, hb⟩
    rw [h0]
    go_wp2
    go_ret
    exact ⟨ret_bool (by rw [HV.out]; rfl), B0.trans (hb.mono B0.size)⟩
  | true =>
    cases h1 : amB z1 with
    | false =>
      rw [h0, h1] at HV
      go_enter Try.func59, Try.ntmps59
      go_wp2_with fail
      rw [← hW]
      clear hW
      refine (isNoAmount_any z0 W).mono ?_
      rintro e w1 ⟨rfl, hb⟩
      rw [h0]
      have B1 := B0.trans (hb.mono B0.size)
      have p1 := cell_later hb p1
      have p2 := cell_later hb p2
      go_wp2_with fail
      refine (isNoAmount_any z1 w1).mono ?_
      rintro e w2 ⟨rfl, hb2⟩
      rw [h1]
      go_wp2
      go_ret
      exact ⟨ret_bool (by rw [HV.out]; rfl), B1.trans (hb2.mono B1.size)⟩
    | true =>
      rw [h0, h1] at HV
      cases b with
      | true =>
        go_enter Try.func59, Try.ntmps59
        go_wp2_with fail
        rw [← hW]
        clear hW
        refine (isNoAmount_any z0 W).mono ?_
        rintro e w1 ⟨rfl, hb⟩
        rw [h0]
        have B1 := B0.trans (hb.mono B0.size)
        have p1 := cell_later hb p1
        have p2 := cell_later hb p2
        go_wp2_with fail
        refine (isNoAmount_any z1 w1).mono ?_
        rintro e w2 ⟨rfl, hb2⟩
        rw [h1]
        have p2 := cell_later hb2 p2
        go_wp2
        go_ret
        exact ⟨ret_bool (by rw [HV.out]; rfl), B1.trans (hb2.mono B1.size)⟩
      | false =>
        go_enter Try.func59, Try.ntmps59
        go_wp2_with fail
        rw [← hW]
        clear hW
        refine (isNoAmount_any z0 W).mono ?_
        rintro e w1 ⟨rfl, hb⟩
        rw [h0]
        have B1 := B0.trans (hb.mono B0.size)
        have p1 := cell_later hb p1
        have p2 := cell_later hb p2
        go_wp2_with fail
        refine (isNoAmount_any z1 w1).mono ?_
        rintro e w2 ⟨rfl, hb2⟩
        rw [h1]
        have p1 := cell_later hb2 p1
        have p2 := cell_later hb2 p2
        go_wp2
        go_ret
        exact ⟨ret_bool (by rw [HV.out]; by_cases e : z1 = 0 <;> simp [e]), B1.trans (hb2.mono B1.size)⟩

theorem isNotDone_any (z0 z1 : Int) (b : Bool) (w : World) :
    Calls Try.prog 79 #[.agg #[.int .i64 z0, .int .i64 z1, .bool b]] w fun e w' => e = .returned (.bool (!b)) ∧ Below w.heap.size w w' := by
  go_enter Try.func79, Try.ntmps79
  go_wp2
  go_ret
  exact ⟨rfl, (Below.refl _ _).alloc (Nat.le_refl _) _⟩
theorem isDone_any (z0 z1 : Int) (b : Bool) (w : World) :
    Calls Try.prog 49 #[.agg #[.int .i64 z0, .int .i64 z1, .bool b]] w fun e w' => e = .returned (.bool b) ∧ Below w.heap.size w w' := by
  go_enter Try.func49, Try.ntmps49
  go_wp2
  go_ret
  exact ⟨rfl, (Below.refl _ _).alloc (Nat.le_refl _) _⟩
theorem isOpen_any (a0 : Option Addr) (n0 c0 : Nat) (a1 : Option Addr) (n1 c1 : Nat) (b : Bool) (w : World) :
    Calls Try.prog 81 #[.agg #[.slice a0 n0 c0, .slice a1 n1 c1, .bool b]] w fun e w' => e = .returned (.bool b) ∧ Below w.heap.size w w' := by
  go_enter Try.func81, Try.ntmps81
  go_wp2
  go_ret
  exact ⟨rfl, (Below.refl _ _).alloc (Nat.le_refl _) _⟩
theorem hasWords_any (a0 : Option Addr) (n0 c0 : Nat) (a1 : Option Addr) (n1 c1 : Nat) (b : Bool) (w : World) :
    Calls Try.prog 78 #[.agg #[.slice a0 n0 c0, .slice a1 n1 c1, .bool b]] w fun e w' => e = .returned (.bool (decide (0 < n0))) ∧ Below w.heap.size w w' := by
  by_cases h : 0 < n0
  · have h' : (0 : Int) < (n0 : Int) := by omega
    rw [decide_eq_true h]
    clear h
    go_enter Try.func78, Try.ntmps78
    go_wp2
    go_ret
    exact ⟨ret_bool (by simp <;> omega), (Below.refl _ _).alloc (Nat.le_refl _) _⟩
  · obtain rfl : n0 = 0 := by omega
    go_enter Try.func78, Try.ntmps78
    go_wp2
    go_ret
    exact ⟨rfl, (Below.refl _ _).alloc (Nat.le_refl _) _⟩
theorem isRecording_any (a0 : Option Addr) (n0 c0 : Nat) (a1 : Option Addr) (n1 c1 : Nat) (b : Bool) (w : World) :
    Calls Try.prog 62 #[.agg #[.slice a0 n0 c0, .slice a1 n1 c1, .bool b]] w fun e w' => e = .returned (.bool (b || decide (0 < n1))) ∧ Below w.heap.size w w' := by
  cases b with
  | true =>
    go_enter Try.func62, Try.ntmps62
    go_wp2
    go_ret
    exact ⟨rfl, (Below.refl _ _).alloc (Nat.le_refl _) _⟩
  | false =>
    by_cases h : 0 < n1
    · have h' : (0 : Int) < (n1 : Int) := by omega
      rw [decide_eq_true h]
      clear h
      go_enter Try.func62, Try.ntmps62
      go_wp2
      go_ret
      exact ⟨ret_bool (by simp <;> omega), (Below.refl _ _).alloc (Nat.le_refl _) _⟩
    · obtain rfl : n1 = 0 := by omega
      go_enter Try.func62, Try.ntmps62
      go_wp2
      go_ret
      exact ⟨rfl, (Below.refl _ _).alloc (Nat.le_refl _) _⟩
theorem isUsed_any (a0 : Option Addr) (n0 c0 : Nat) (a1 : Option Addr) (n1 c1 : Nat) (b : Bool) (w : World) :
    Calls Try.prog 61 #[.agg #[.slice a0 n0 c0, .slice a1 n1 c1, .bool b]] w fun e w' => e = .returned (.bool (decide (0 < n0) || (b || decide (0 < n1)))) ∧ Below w.heap.size w w' := by
  obtain ⟨W, hW⟩ : ∃ W, W = w.alloc (.cells #[.slice a0 n0 c0, .slice a1 n1 c1, .bool b] 76) := ⟨_, rfl⟩
  have B0 : Below w.heap.size w W := by rw [hW]; exact (Below.refl _ _).alloc (Nat.le_refl _) _
  have p0 : W.cell? ⟨w.heap.size, 0, none⟩ = some (.slice a0 n0 c0) := by rw [hW]; simp
  have p1 : W.cell? ⟨w.heap.size, 1, none⟩ = some (.slice a1 n1 c1) := by rw [hW]; simp
  have p2 : W.cell? ⟨w.heap.size, 2, none⟩ = some (.bool b) := by rw [hW]; simp
  have K := Hid.mk (hasWords_any a0 n0 c0 a1 n1 c1 b W)
  obtain ⟨h, hh⟩ : ∃ h, decide (0 < n0) = h := ⟨_, rfl⟩
  rw [hh] at K ⊢
  clear hh
  have K2 := Hid.mk (fun w => isRecording_any a0 n0 c0 a1 n1 c1 b w)
  obtain ⟨r, hr⟩ : ∃ r, (b || decide (0 < n1)) = r := ⟨_, rfl⟩
  rw [hr] at K2 ⊢
  clear hr
  cases h with
  | true =>
    go_enter Try.func61, Try.ntmps61
    go_wp2_with fail
    rw [← hW]
    clear hW
    refine K.out.mono ?_
    rintro e w1 ⟨rfl, hb⟩
    go_wp2
    go_ret
    exact ⟨rfl, B0.trans (hb.mono B0.size)⟩
  | false =>
    go_enter Try.func61, Try.ntmps61
    go_wp2_with fail
    rw [← hW]
    clear hW
    refine K.out.mono ?_
    rintro e w1 ⟨rfl, hb⟩
    have B1 := B0.trans (hb.mono B0.size)
    have p0 := cell_later hb p0
    have p1 := cell_later hb p1
    have p2 := cell_later hb p2
    go_wp2_with fail
    refine (K2.out w1).mono ?_
    rintro e w2 ⟨rfl, hb2⟩
    go_wp2
    go_ret
    exact ⟨rfl, B1.trans (hb2.mono B1.size)⟩

set_option maxRecDepth 100000 in
set_option maxHeartbeats 2000000 in
theorem isNoWire_any (a0 : Option Addr) (n0 c0 : Nat) (a1 : Option Addr) (n1 c1 : Nat) (b : Bool) (x0 x1 : List Int) (w : World) (h0 : SlI w a0 n0 c0 x0) (h1 : SlI w a1 n1 c1 x1) :
    Calls Try.prog 60 #[.agg #[.slice a0 n0 c0, .slice a1 n1 c1, .bool b]] w fun e w' => e = .returned (.bool (!wiB (x0, x1, b))) ∧ Below w.heap.size w w' := by
  have HV : Hid (wiB (x0, x1, b) = (decide (n0 ≤ 12) && x0.all wdB && decide (n1 ≤ 200) && x1.all stB)) := Hid.mk (by unfold wiB; simp only [h0.1, h1.1])
  obtain ⟨W, hW⟩ : ∃ W, W = w.alloc (.cells #[.slice a0 n0 c0, .slice a1 n1 c1, .bool b] 76) := ⟨_, rfl⟩
  have B0 : Below w.heap.size w W := by rw [hW]; exact (Below.refl _ _).alloc (Nat.le_refl _) _
  have p1 : W.cell? ⟨w.heap.size, 1, none⟩ = some (.slice a1 n1 c1) := by rw [hW]; simp
  by_cases q0 : 12 < n0
  · have q0' : (12 : Int) < (n0 : Int) := by omega
    have HV2 : Hid (wiB (x0, x1, b) = false) := Hid.mk (by rw [HV.out, decide_eq_false (by omega)]; rfl)
    clear h0 h1 q0 HV p1
    go_enter Try.func60, Try.ntmps60
    go_wp2
    go_ret
    exact ⟨ret_bool (by rw [HV2.out]; simp <;> omega), by rw [← hW]; exact B0⟩
  have q0' : ¬ (12 : Int) < (n0 : Int) := by omega
  have K0 := Hid.mk (containsInts_any 85 (fun x => !wdB x) (fun _ _ => rfl) isNoWord_any a0 n0 c0 x0 W h0.1 h0.2.1 (At.below h0.2.2.1 B0))
  rw [any_not] at K0
  have HN0 := Hid.mk h0.1
  have HN1 := Hid.mk h1
  rw [decide_eq_true (show n0 ≤ 12 by omega)] at HV
  clear h0 h1 q0
  cases e0 : x0.all wdB with
  | false =>
    rw [e0] at K0 HV
    go_enter Try.func60, Try.ntmps60
    go_wp2_with fail
    rw [← hW]
    clear hW
    refine K0.out.mono ?_
    rintro e w1 ⟨rfl, hb⟩
    go_wp2
    go_ret
    exact ⟨ret_bool (by rw [HV.out]; rfl), B0.trans (hb.mono B0.size)⟩
  | true =>
    rw [e0] at K0 HV
    by_cases q1 : 200 < n1
    · have q1' : (200 : Int) < (n1 : Int) := by omega
      have HV2 : Hid (wiB (x0, x1, b) = false) := Hid.mk (by rw [HV.out, decide_eq_false (show ¬ n1 ≤ 200 by omega)]; rfl)
      clear q1 HV
      go_enter Try.func60, Try.ntmps60
      go_wp2_with fail
      rw [← hW]
      clear hW
      refine K0.out.mono ?_
      rintro e w1 ⟨rfl, hb⟩
      have p1 := cell_later hb p1
      have B1 := B0.trans (hb.mono B0.size)
      go_wp2
      go_ret
      exact ⟨ret_bool (by rw [HV2.out]; simp <;> omega), B1⟩
    · have q1' : ¬ (200 : Int) < (n1 : Int) := by omega
      rw [decide_eq_true (show n1 ≤ 200 by omega)] at HV
      clear q1
      go_enter Try.func60, Try.ntmps60
      go_wp2_with fail
      rw [← hW]
      clear hW
      refine K0.out.mono ?_
      rintro e w1 ⟨rfl, hb⟩
      have p1 := cell_later hb p1
      have B1 := B0.trans (hb.mono B0.size)
      have K1 := Hid.mk (containsInts_any 86 (fun x => !stB x) (fun _ _ => rfl) isNotSent_any a1 n1 c1 x1 w1 HN1.out.1 HN1.out.2.1 (At.below HN1.out.2.2.1 B1))
      rw [any_not] at K1
      go_wp2_with fail
      refine K1.out.mono ?_
      rintro e w2 ⟨rfl, hb2⟩
      go_wp2
      go_ret
      exact ⟨ret_bool (by rw [HV.out, decide_eq_false (show ¬ (200 : Int) < (n1 : Int) by omega)]; simp), B1.trans (hb2.mono B1.size)⟩

end Go.Proofs.Ytnfdncofobkjhaa

/- Contracts of the program's sums over a snap. -/
namespace Go.Proofs.Ytnfdncofobkjhaa
open Go.RowKit

set_option maxRecDepth 100000 in
set_option maxHeartbeats 1000000 in
theorem sumOf_any (a : Option Addr) (n c : Nat) (zs : List Int) (w : World) (hz : zs.length = n) (hn : n ≤ 200) (hall : ∀ x ∈ zs, 0 ≤ x ∧ x ≤ 1000000) (ha : At w a zs) :
    Calls Try.prog 87 #[.slice a n c] w fun e w' => e = .returned (.int .i64 zs.sum) ∧ Below w.heap.size w w' := by
  have HS : Hid (∀ k, 0 ≤ sumTo (fun x : Int => x) zs k ∧ sumTo (fun x : Int => x) zs k ≤ 1000000 * k) := Hid.mk (sumTo_le _ (by omega) hall)
  have HP : Hid (sumTo (fun x : Int => x) zs n = zs.sum) := Hid.mk (by rw [sumTo_all _ _ hz]; simp)
  have HA := Hid.mk ha
  have HZ := Hid.mk hz
  clear ha hz hall
  go_enter Try.func87, Try.ntmps87
  go_wp2_with fail
  go_loopw [3, 8] (fun q i wr => ∃ (k : Nat) (r : Int), k ≤ n ∧ i = .int .i64 k ∧ q = .int .i64 r ∧ r = sumTo (fun x : Int => x) zs k ∧ Below w.heap.size w wr) (fun _ i _ => n - (intOf i).toNat)
  case atStart => exact ⟨0, 0, Nat.zero_le _, rfl, rfl, (sumTo_zero _ _).symm, Below.refl _ _⟩
  case round =>
    obtain ⟨k, r, hk, rfl, rfl, hr, hbw⟩ := hrel
    obtain ⟨wY, rfl⟩ : ∃ x, x = wr := ⟨_, rfl⟩
    by_cases hlt : k < n
    · obtain ⟨b, off, rfl, _, hc⟩ := (At.below HA.out hbw).some (by have := HZ.out; omega)
      obtain ⟨y, hy⟩ : ∃ y, zs[k]? = some y := ⟨_, List.getElem?_eq_getElem (by have := HZ.out; omega)⟩
      have hcx : wY.cell? ⟨b, off + k, none⟩ = some (.int .i64 y) := by
        have h9 := hc k (by have := HZ.out; omega)
        simpa [List.getD, hy] using h9
      have hs := sumTo_succ (fun x : Int => x) hy
      have q1 := HS.out k
      have q2 := HS.out (k + 1)
      have hki : (k : Int) < (n : Int) := by omega
      have u0 : 0 ≤ r := by omega
      have u1 : r ≤ 300000000 := by omega
      have u2 : 0 ≤ r + y := by omega
      have u3 : r + y ≤ 300000000 := by omega
      have HR : Hid (r + y = sumTo (fun x : Int => x) zs (k + 1)) := Hid.mk (by omega)
      clear hc hy hs q1 q2 hr
      go_wp2
      go_roundw
      case rel => exact ⟨k + 1, _, by omega, by go_num, rfl, HR.out, hbw⟩
      case measure => simp [intOf]; omega
    · obtain rfl : k = n := by omega
      rw [HP.out] at hr
      have HR := Hid.mk hr
      clear hr
      go_wp2
      go_ret
      exact ⟨ret_int HR.out, hbw⟩

set_option maxRecDepth 100000 in
set_option maxHeartbeats 4000000 in
theorem amountsIn_any (a0 : Option Addr) (n0 c0 : Nat) (a1 : Option Addr) (n1 c1 : Nat) (ps : List TProc) (ws : List TWire) (w : World) (h0 : ps.length = n0) (h1 : ws.length = n1) (hn0 : n0 ≤ 4) (hn1 : n1 ≤ 16) (hp : PsOk ps) (hw : WsOk ws) (ha0 : AtSl RProc w a0 ps) (ha1 : AtSl RWire w a1 ws) :
    Calls Try.prog 63 #[.agg #[.slice a0 n0 c0, .slice a1 n1 c1]] w fun e w' => e = .returned (.int .i64 (pAmt ps + wAmt ws)) ∧ Below w.heap.size w w' := by
  have HS : Hid (∀ k, 0 ≤ sumTo (fun p : TProc => p.1) ps k ∧ sumTo (fun p : TProc => p.1) ps k ≤ 2000000000 * k) := Hid.mk (sumTo_le _ (by omega) (fun p h => by have := hp p h; omega))
  have HT : Hid (∀ k, 0 ≤ sumTo (fun v : TWire => v.1.sum) ws k ∧ sumTo (fun v : TWire => v.1.sum) ws k ≤ 200000000 * k) := Hid.mk (sumTo_le _ (by omega) (fun v h => by have := hw v h; omega))
  have HP : Hid (sumTo (fun p : TProc => p.1) ps n0 = pAmt ps) := Hid.mk (sumTo_all _ _ h0)
  have HQ : Hid (sumTo (fun v : TWire => v.1.sum) ws n1 = wAmt ws) := Hid.mk (sumTo_all _ _ h1)
  have H0 := Hid.mk h0
  have H1 := Hid.mk h1
  have HW := Hid.mk hw
  obtain ⟨W, hW⟩ : ∃ W, W = w.alloc (.cells #[.slice a0 n0 c0, .slice a1 n1 c1] 32) := ⟨_, rfl⟩
  have B0 : Below w.heap.size w W := by rw [hW]; exact (Below.refl _ _).alloc (Nat.le_refl _) _
  have p1 : W.cell? ⟨w.heap.size, 1, none⟩ = some (.slice a1 n1 c1) := by rw [hW]; simp
  have zW : w.heap.size < W.heap.size := by rw [hW]; simp
  have HA0 := Hid.mk (AtSl.below ha0 B0)
  have HA1 := Hid.mk (AtSl.below ha1 B0)
  clear ha0 ha1 h0 h1 hw hp
  go_enter Try.func63, Try.ntmps63
  go_wp2_with fail
  rw [← hW]
  clear hW
  go_loopw [3, 11] (fun q i wr => ∃ (k : Nat) (r : Int), k ≤ n0 ∧ i = .int .i64 k ∧ q = .int .i64 r ∧ r = sumTo (fun p : TProc => p.1) ps k ∧ Below W.heap.size W wr) (fun _ i _ => n0 - (intOf i).toNat)
  case atStart => exact ⟨0, 0, Nat.zero_le _, rfl, rfl, (sumTo_zero _ _).symm, Below.refl _ _⟩
  case round =>
    obtain ⟨k, r, hk, rfl, rfl, hr, hbw⟩ := hrel
    obtain ⟨wY, rfl⟩ : ∃ x, x = wr := ⟨_, rfl⟩
    by_cases hlt : k < n0
    · obtain ⟨b, off, rfl, _, hc⟩ := RProc.row (AtSl.below HA0.out hbw) (by have := H0.out; omega)
      obtain ⟨⟨z0, z1, bo⟩, hx⟩ : ∃ x, ps[k]? = some x := ⟨_, List.getElem?_eq_getElem (by have := H0.out; omega)⟩
      obtain ⟨g0, g1, g2, _⟩ := hc k _ hx
      have hs := sumTo_succ (fun p : TProc => p.1) hx
      have q1 := HS.out k
      have q2 := HS.out (k + 1)
      have hki : (k : Int) < (n0 : Int) := by omega
      simp only at hs
      have u0 : 0 ≤ r := by omega
      have u1 : r ≤ 9000000000 := by omega
      have u2 : 0 ≤ r + z0 := by omega
      have u3 : r + z0 ≤ 9000000000 := by omega
      have HR : Hid (r + z0 = sumTo (fun p : TProc => p.1) ps (k + 1)) := Hid.mk (by omega)
      clear hc hx hs q1 q2 hr
      go_wp2
      go_roundw
      case rel => exact ⟨k + 1, _, by omega, by go_num, rfl, HR.out, hbw.alloc hbw.size _⟩
      case measure => simp [intOf]; omega
    · obtain rfl : k = n0 := by omega
      rw [HP.out] at hr
      have hp0 := HS.out k
      rw [HP.out] at hp0
      have p1 := cell_later hbw p1
      have u0 : 0 ≤ r := by omega
      have u1 : r ≤ 8000000000 := by omega
      have HR := Hid.mk hr
      have HA1 := Hid.mk (AtSl.below HA1.out hbw)
      have BY := B0.trans (hbw.mono B0.size)
      have zY : w.heap.size < wY.heap.size := Nat.lt_of_lt_of_le zW hbw.size
      clear hr hp0 hbw
      go_wp2_with fail
      go_loopw [3, 23] (fun q i wr => ∃ (j : Nat) (s : Int), j ≤ n1 ∧ i = .int .i64 j ∧ q = .int .i64 s ∧ s = r + sumTo (fun v : TWire => v.1.sum) ws j ∧ Below wY.heap.size wY wr) (fun _ i _ => n1 - (intOf i).toNat)
      case atStart => exact ⟨0, r, Nat.zero_le _, rfl, rfl, by rw [sumTo_zero]; omega, Below.refl _ _⟩
      case round =>
        obtain ⟨j, s, hj, rfl, rfl, hs, hbv⟩ := hrel
        obtain ⟨wZ, rfl⟩ : ∃ x, x = wr := ⟨_, rfl⟩
        by_cases hjt : j < n1
        · obtain ⟨b, off, rfl, hb, hc⟩ := RWire.row (AtSl.below HA1.out hbv) (by have := H1.out; omega)
          obtain ⟨⟨x0, x1, bo⟩, hx⟩ : ∃ x, ws[j]? = some x := ⟨_, List.getElem?_eq_getElem (by have := H1.out; omega)⟩
          obtain ⟨d0, m0, e0, d1, m1, e1, g0, g1, g2, ⟨t01, t02, t03, _⟩, ⟨t11, t12, t13, _⟩⟩ := hc j _ hx
          have hok := HW.out _ (List.mem_of_getElem? hx)
          have hst := sumTo_succ (fun v : TWire => v.1.sum) hx
          have q1 := HT.out j
          have q2 := HT.out (j + 1)
          have hki : (j : Int) < (n1 : Int) := by omega
          simp only at hst hok g0 g1 g2 t01 t03 t11 t13
          obtain ⟨X, hX⟩ : ∃ X, X = wZ.alloc (.cells #[.slice d0 m0 e0, .slice d1 m1 e1, .bool bo] 76) := ⟨_, rfl⟩
          have bX : Below wZ.heap.size wZ X := by rw [hX]; exact (Below.refl _ _).alloc (Nat.le_refl _) _
          have K := Hid.mk (sumOf_any d0 m0 e0 x0 X t01 (by omega) hok.2.2.2.2.2.2.1 (At.below t03 bX))
          obtain ⟨V, hV⟩ : ∃ V, x0.sum = V := ⟨_, rfl⟩
          rw [hV] at K hst hok
          have u2 : 0 ≤ s := by omega
          have u3 : s ≤ 18000000000 := by omega
          have u4 : 0 ≤ s + V := by omega
          have u5 : s + V ≤ 18000000000 := by omega
          have HR2 : Hid (s + V = r + sumTo (fun v : TWire => v.1.sum) ws (j + 1)) := Hid.mk (by omega)
          have BX := Hid.mk (hbv.trans (bX.mono hbv.size))
          clear hc hx hst q1 q2 hs hok hV bX t01 t03 t11 t13
          go_wp2_with fail
          rw [← hX]
          clear hX
          refine K.out.mono ?_
          rintro e w9 ⟨rfl, hb9⟩
          have BX9 := Hid.mk (BX.out.trans (hb9.mono BX.out.size))
          clear hb9 K BX
          go_wp2
          go_roundw
          case rel => exact ⟨j + 1, _, by omega, by go_num, rfl, HR2.out, BX9.out⟩
          case measure => simp [intOf]; omega
        · obtain rfl : j = n1 := by omega
          rw [HQ.out] at hs
          have HS2 := Hid.mk hs
          clear hs
          go_wp2
          go_ret
          exact ⟨ret_int (by rw [HS2.out, HR.out]), BY.trans (hbv.mono BY.size)⟩

set_option maxRecDepth 100000 in
set_option maxHeartbeats 4000000 in
theorem recordedIn_any (a0 : Option Addr) (n0 c0 : Nat) (a1 : Option Addr) (n1 c1 : Nat) (ps : List TProc) (ws : List TWire) (w : World) (h0 : ps.length = n0) (h1 : ws.length = n1) (hn0 : n0 ≤ 4) (hn1 : n1 ≤ 16) (hp : PsOk ps) (hw : WsOk ws) (ha0 : AtSl RProc w a0 ps) (ha1 : AtSl RWire w a1 ws) :
    Calls Try.prog 64 #[.agg #[.slice a0 n0 c0, .slice a1 n1 c1]] w fun e w' => e = .returned (.int .i64 (pSav ps + wRec ws)) ∧ Below w.heap.size w w' := by
  have HS : Hid (∀ k, 0 ≤ sumTo (fun p : TProc => p.2.1) ps k ∧ sumTo (fun p : TProc => p.2.1) ps k ≤ 2000000000 * k) := Hid.mk (sumTo_le _ (by omega) (fun p h => by have := hp p h; omega))
  have HT : Hid (∀ k, 0 ≤ sumTo (fun v : TWire => v.2.1.sum) ws k ∧ sumTo (fun v : TWire => v.2.1.sum) ws k ≤ 200000000 * k) := Hid.mk (sumTo_le _ (by omega) (fun v h => by have := hw v h; omega))
  have HP : Hid (sumTo (fun p : TProc => p.2.1) ps n0 = pSav ps) := Hid.mk (sumTo_all _ _ h0)
  have HQ : Hid (sumTo (fun v : TWire => v.2.1.sum) ws n1 = wRec ws) := Hid.mk (sumTo_all _ _ h1)
  have H0 := Hid.mk h0
  have H1 := Hid.mk h1
  have HW := Hid.mk hw
  obtain ⟨W, hW⟩ : ∃ W, W = w.alloc (.cells #[.slice a0 n0 c0, .slice a1 n1 c1] 32) := ⟨_, rfl⟩
  have B0 : Below w.heap.size w W := by rw [hW]; exact (Below.refl _ _).alloc (Nat.le_refl _) _
  have p1 : W.cell? ⟨w.heap.size, 1, none⟩ = some (.slice a1 n1 c1) := by rw [hW]; simp
  have zW : w.heap.size < W.heap.size := by rw [hW]; simp
  have HA0 := Hid.mk (AtSl.below ha0 B0)
  have HA1 := Hid.mk (AtSl.below ha1 B0)
  clear ha0 ha1 h0 h1 hw hp
  go_enter Try.func64, Try.ntmps64
  go_wp2_with fail
  rw [← hW]
  clear hW
  go_loopw [3, 11] (fun q i wr => ∃ (k : Nat) (r : Int), k ≤ n0 ∧ i = .int .i64 k ∧ q = .int .i64 r ∧ r = sumTo (fun p : TProc => p.2.1) ps k ∧ Below W.heap.size W wr) (fun _ i _ => n0 - (intOf i).toNat)
  case atStart => exact ⟨0, 0, Nat.zero_le _, rfl, rfl, (sumTo_zero _ _).symm, Below.refl _ _⟩
  case round =>
    obtain ⟨k, r, hk, rfl, rfl, hr, hbw⟩ := hrel
    obtain ⟨wY, rfl⟩ : ∃ x, x = wr := ⟨_, rfl⟩
    by_cases hlt : k < n0
    · obtain ⟨b, off, rfl, _, hc⟩ := RProc.row (AtSl.below HA0.out hbw) (by have := H0.out; omega)
      obtain ⟨⟨z0, z1, bo⟩, hx⟩ : ∃ x, ps[k]? = some x := ⟨_, List.getElem?_eq_getElem (by have := H0.out; omega)⟩
      obtain ⟨g0, g1, g2, _⟩ := hc k _ hx
      have hs := sumTo_succ (fun p : TProc => p.2.1) hx
      have q1 := HS.out k
      have q2 := HS.out (k + 1)
      have hki : (k : Int) < (n0 : Int) := by omega
      simp only at hs
      have u0 : 0 ≤ r := by omega
      have u1 : r ≤ 9000000000 := by omega
      have u2 : 0 ≤ r + z1 := by omega
      have u3 : r + z1 ≤ 9000000000 := by omega
      have HR : Hid (r + z1 = sumTo (fun p : TProc => p.2.1) ps (k + 1)) := Hid.mk (by omega)
      clear hc hx hs q1 q2 hr
      go_wp2
      go_roundw
      case rel => exact ⟨k + 1, _, by omega, by go_num, rfl, HR.out, hbw.alloc hbw.size _⟩
      case measure => simp [intOf]; omega
    · obtain rfl : k = n0 := by omega
      rw [HP.out] at hr
      have hp0 := HS.out k
      rw [HP.out] at hp0
      have p1 := cell_later hbw p1
      have u0 : 0 ≤ r := by omega
      have u1 : r ≤ 8000000000 := by omega
      have HR := Hid.mk hr
      have HA1 := Hid.mk (AtSl.below HA1.out hbw)
      have BY := B0.trans (hbw.mono B0.size)
      have zY : w.heap.size < wY.heap.size := Nat.lt_of_lt_of_le zW hbw.size
      clear hr hp0 hbw
      go_wp2_with fail
      go_loopw [3, 23] (fun q i wr => ∃ (j : Nat) (s : Int), j ≤ n1 ∧ i = .int .i64 j ∧ q = .int .i64 s ∧ s = r + sumTo (fun v : TWire => v.2.1.sum) ws j ∧ Below wY.heap.size wY wr) (fun _ i _ => n1 - (intOf i).toNat)
      case atStart => exact ⟨0, r, Nat.zero_le _, rfl, rfl, by rw [sumTo_zero]; omega, Below.refl _ _⟩
      case round =>
        obtain ⟨j, s, hj, rfl, rfl, hs, hbv⟩ := hrel
        obtain ⟨wZ, rfl⟩ : ∃ x, x = wr := ⟨_, rfl⟩
        by_cases hjt : j < n1
        · obtain ⟨b, off, rfl, hb, hc⟩ := RWire.row (AtSl.below HA1.out hbv) (by have := H1.out; omega)
          obtain ⟨⟨x0, x1, bo⟩, hx⟩ : ∃ x, ws[j]? = some x := ⟨_, List.getElem?_eq_getElem (by have := H1.out; omega)⟩
          obtain ⟨d0, m0, e0, d1, m1, e1, g0, g1, g2, ⟨t01, t02, t03, _⟩, ⟨t11, t12, t13, _⟩⟩ := hc j _ hx
          have hok := HW.out _ (List.mem_of_getElem? hx)
          have hst := sumTo_succ (fun v : TWire => v.2.1.sum) hx
          have q1 := HT.out j
          have q2 := HT.out (j + 1)
          have hki : (j : Int) < (n1 : Int) := by omega
          simp only at hst hok g0 g1 g2 t01 t03 t11 t13
          obtain ⟨X, hX⟩ : ∃ X, X = wZ.alloc (.cells #[.slice d0 m0 e0, .slice d1 m1 e1, .bool bo] 76) := ⟨_, rfl⟩
          have bX : Below wZ.heap.size wZ X := by rw [hX]; exact (Below.refl _ _).alloc (Nat.le_refl _) _
          have K := Hid.mk (sumOf_any d1 m1 e1 x1 X t11 (by omega) hok.2.2.2.2.2.2.2 (At.below t13 bX))
          obtain ⟨V, hV⟩ : ∃ V, x1.sum = V := ⟨_, rfl⟩
          rw [hV] at K hst hok
          have u2 : 0 ≤ s := by omega
          have u3 : s ≤ 18000000000 := by omega
          have u4 : 0 ≤ s + V := by omega
          have u5 : s + V ≤ 18000000000 := by omega
          have HR2 : Hid (s + V = r + sumTo (fun v : TWire => v.2.1.sum) ws (j + 1)) := Hid.mk (by omega)
          have BX := Hid.mk (hbv.trans (bX.mono hbv.size))
          clear hc hx hst q1 q2 hs hok hV bX t01 t03 t11 t13
          go_wp2_with fail
          rw [← hX]
          clear hX
          refine K.out.mono ?_
          rintro e w9 ⟨rfl, hb9⟩
          have BX9 := Hid.mk (BX.out.trans (hb9.mono BX.out.size))
          clear hb9 K BX
          go_wp2
          go_roundw
          case rel => exact ⟨j + 1, _, by omega, by go_num, rfl, HR2.out, BX9.out⟩
          case measure => simp [intOf]; omega
        · obtain rfl : j = n1 := by omega
          rw [HQ.out] at hs
          have HS2 := Hid.mk hs
          clear hs
          go_wp2
          go_ret
          exact ⟨ret_int (by rw [HS2.out, HR.out]), BY.trans (hbv.mono BY.size)⟩

end Go.Proofs.Ytnfdncofobkjhaa
