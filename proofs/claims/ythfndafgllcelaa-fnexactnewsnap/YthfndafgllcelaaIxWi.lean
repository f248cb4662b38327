/- slices.IndexFunc, slices.ContainsFunc at Wire, whatever function is asked. -/
import Derived.Test.YthfndafgllcelaaNapI
namespace Go.Proofs.Ythfndafgllcelaa
open Go.RowKit

set_option maxRecDepth 100000 in
set_option maxHeartbeats 8000000 in
theorem indexWire_any (F : Nat) (P : TWire → Bool) (hE : ∀ (args : Array Value) (w : World), (callFunc F args).run Try.prog w = .ok (.enter F args) w) (hF : ∀ (a0 : Option Addr) (n0 : Nat) (c0 : Nat) (a1 : Option Addr) (n1 : Nat) (c1 : Nat) (bo2 : Bool) (x0 : List Int) (x1 : List Int) (w : World), (x0.length = n0 ∧ n0 ≤ 9223372036854775807 ∧ At w a0 x0 ∧ (a0 = none → c0 = 0)) → (x1.length = n1 ∧ n1 ≤ 9223372036854775807 ∧ At w a1 x1 ∧ (a1 = none → c1 = 0)) → Calls Try.prog F #[.agg #[.slice a0 n0 c0, .slice a1 n1 c1, .bool bo2]] w fun e w' => e = .returned (.bool (P (x0, x1, bo2))) ∧ Below w.heap.size w w') (a : Option Addr) (n c : Nat) (xs : List TWire) (w : World) (hz : xs.length = n) (hn : n ≤ 9223372036854775807) (ha : AtSl RWire w a xs) :
    Calls Try.prog 87 #[.slice a n c, .func (.func F) #[] #[]] w fun e w' => e = .returned (.int .i64 (ixF P xs)) ∧ Below w.heap.size w w' := by
  have HF := Hid.mk hF
  have HZ := Hid.mk hz
  have HA := Hid.mk ha
  clear hF ha hz
  go_enter Try.func87, Try.ntmps87
  go_wp2
  go_loopw [8] (fun i wr => ∃ (k : Nat), k ≤ n ∧ i = .int .i64 k ∧ (∀ (j : Nat) (y : TWire), j < k → xs[j]? = some y → P y = false) ∧ Below w.heap.size w wr) (fun i _ => n - (intOf i).toNat)
  case atStart => exact ⟨0, Nat.zero_le _, rfl, fun j y hj => by omega, Below.refl _ _⟩
  case round =>
    obtain ⟨k, hk, rfl, ht, hbw⟩ := hrel
    obtain ⟨wY, rfl⟩ : ∃ x, x = wr := ⟨_, rfl⟩
    by_cases hlt : k < n
    · obtain ⟨b, off, rfl, hb, hc⟩ := RWire.row (AtSl.below HA.out hbw) (by have := HZ.out; omega)
      obtain ⟨⟨x0, x1, bo2⟩, hy⟩ : ∃ y, xs[k]? = some y := ⟨_, List.getElem?_eq_getElem (by have := HZ.out; omega)⟩
      obtain ⟨a0, n0, c0, a1, n1, c1, g0, g1, g2, u0, u1⟩ := hc k _ hy
      have K := Hid.mk (HF.out a0 n0 c0 a1 n1 c1 bo2 x0 x1 wY u0 u1)
      have HT := Hid.mk ht
      have HY := Hid.mk hy
      have HBW := Hid.mk hbw
      have hki : (k : Int) < (n : Int) := by omega
      clear hc hy ht hbw u0 u1
      cases hr : P (x0, x1, bo2) with
      | true =>
        rw [hr] at K
        go_wp2_with fail
        refine K.out.mono ?_
        rintro e w3 ⟨rfl, hb3⟩
        have HB3 := Hid.mk (HBW.out.trans (hb3.mono HBW.out.size))
        clear hb3 K
        go_wp2
        go_ret
        exact ⟨ret_int (ixF_hit HY.out hr HT.out).symm, HB3.out⟩
      | false =>
        rw [hr] at K
        go_wp2_with fail
        refine K.out.mono ?_
        rintro e w3 ⟨rfl, hb3⟩
        have HB3 := Hid.mk (HBW.out.trans (hb3.mono HBW.out.size))
        clear hb3 K
        go_wp2
        go_roundw
        case rel => exact ⟨k + 1, by omega, by go_num, fun j z hj hz => by
          by_cases e : j = k
          · subst e; rw [HY.out] at hz; cases hz; exact hr
          · exact HT.out j z (by omega) hz, HB3.out⟩
        case measure => simp [intOf]; omega
    · have HT := Hid.mk ht
      clear ht
      go_wp2
      go_ret
      exact ⟨ret_int (ixF_none (n := k) (by have := HZ.out; omega) HT.out).symm, hbw⟩

set_option maxRecDepth 100000 in
set_option maxHeartbeats 8000000 in
theorem containsWire_any (F : Nat) (P : TWire → Bool) (hE : ∀ (args : Array Value) (w : World), (callFunc F args).run Try.prog w = .ok (.enter F args) w) (hF : ∀ (a0 : Option Addr) (n0 : Nat) (c0 : Nat) (a1 : Option Addr) (n1 : Nat) (c1 : Nat) (bo2 : Bool) (x0 : List Int) (x1 : List Int) (w : World), (x0.length = n0 ∧ n0 ≤ 9223372036854775807 ∧ At w a0 x0 ∧ (a0 = none → c0 = 0)) → (x1.length = n1 ∧ n1 ≤ 9223372036854775807 ∧ At w a1 x1 ∧ (a1 = none → c1 = 0)) → Calls Try.prog F #[.agg #[.slice a0 n0 c0, .slice a1 n1 c1, .bool bo2]] w fun e w' => e = .returned (.bool (P (x0, x1, bo2))) ∧ Below w.heap.size w w') (a : Option Addr) (n c : Nat) (xs : List TWire) (w : World) (hz : xs.length = n) (hn : n ≤ 9223372036854775807) (ha : AtSl RWire w a xs) :
    Calls Try.prog 63 #[.slice a n c, .func (.func F) #[] #[]] w fun e w' => e = .returned (.bool (xs.any P)) ∧ Below w.heap.size w w' := by
  have K := Hid.mk (indexWire_any F P hE hF a n c xs w hz hn ha)
  rw [← ixF_ge P xs]
  obtain ⟨q, hq⟩ : ∃ q, ixF P xs = q := ⟨_, rfl⟩
  rw [hq] at K ⊢
  clear ha hz hF hE hq
  go_enter Try.func63, Try.ntmps63
  go_wp2_with fail
  refine K.out.mono ?_
  rintro e w2 ⟨rfl, hb⟩
  clear K
  go_wp2
  go_ret
  exact ⟨rfl, hb⟩

end Go.Proofs.Ythfndafgllcelaa
