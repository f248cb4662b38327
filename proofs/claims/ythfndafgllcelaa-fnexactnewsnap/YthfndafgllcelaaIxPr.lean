/- slices.IndexFunc, slices.ContainsFunc at Proc, whatever function is asked. -/
import Derived.Test.YthfndafgllcelaaNapI
namespace Go.Proofs.Ythfndafgllcelaa
open Go.RowKit

set_option maxRecDepth 100000 in
set_option maxHeartbeats 8000000 in
theorem indexProc_any (F : Nat) (P : TProc → Bool) (hE : ∀ (args : Array Value) (w : World), (callFunc F args).run Try.prog w = .ok (.enter F args) w) (hF : ∀  (zi0 : Int) (zi1 : Int) (bo2 : Bool)  (w : World), Calls Try.prog F #[.agg #[.int .i64 zi0, .int .i64 zi1, .bool bo2]] w fun e w' => e = .returned (.bool (P (zi0, zi1, bo2))) ∧ Below w.heap.size w w') (a : Option Addr) (n c : Nat) (xs : List TProc) (w : World) (hz : xs.length = n) (hn : n ≤ 9223372036854775807) (ha : AtSl RProc w a xs) :
    Calls Try.prog 71 #[.slice a n c, .func (.func F) #[] #[]] w fun e w' => e = .returned (.int .i64 (ixF P xs)) ∧ Below w.heap.size w w' := by
  have HF := Hid.mk hF
  have HZ := Hid.mk hz
  have HA := Hid.mk ha
  clear hF ha hz
  go_enter Try.func71, Try.ntmps71
  go_wp2
  go_loopw [8] (fun i wr => ∃ (k : Nat), k ≤ n ∧ i = .int .i64 k ∧ (∀ (j : Nat) (y : TProc), j < k → xs[j]? = some y → P y = false) ∧ Below w.heap.size w wr) (fun i _ => n - (intOf i).toNat)
  case atStart => exact ⟨0, Nat.zero_le _, rfl, fun j y hj => by omega, Below.refl _ _⟩
  case round =>
    obtain ⟨k, hk, rfl, ht, hbw⟩ := hrel
    obtain ⟨wY, rfl⟩ : ∃ x, x = wr := ⟨_, rfl⟩
    by_cases hlt : k < n
    · obtain ⟨b, off, rfl, hb, hc⟩ := RProc.row (AtSl.below HA.out hbw) (by have := HZ.out; omega)
      obtain ⟨⟨zi0, zi1, bo2⟩, hy⟩ : ∃ y, xs[k]? = some y := ⟨_, List.getElem?_eq_getElem (by have := HZ.out; omega)⟩
      obtain ⟨g0, g1, g2, _⟩ := hc k _ hy
      have K := Hid.mk (HF.out zi0 zi1 bo2 wY)
      have HT := Hid.mk ht
      have HY := Hid.mk hy
      have HBW := Hid.mk hbw
      have hki : (k : Int) < (n : Int) := by omega
      clear hc hy ht hbw
      cases hr : P (zi0, zi1, bo2) with
      | true =>
        rw [hr] at K
        go_wp2_with fail
        refine K.out.mono ?_
        rintro e w3 ⟨rfl, hb3⟩
        have HB3 := Hid.mk (HBW.out.trans (hb3.mono HBW.out.size))
        clear hb3 K
        go_wp2
        go_ret
        exact ⟨ret_int (ixF_hit HY.out hr HT.out).symm, HB3.out⟩
      | false =>
        rw [hr] at K
        go_wp2_with fail
        refine K.out.mono ?_
        rintro e w3 ⟨rfl, hb3⟩
        have HB3 := Hid.mk (HBW.out.trans (hb3.mono HBW.out.size))
        clear hb3 K
        go_wp2
        go_roundw
        case rel => exact ⟨k + 1, by omega, by go_num, fun j z hj hz => by
          by_cases e : j = k
          · subst e; rw [HY.out] at hz; cases hz; exact hr
          · exact HT.out j z (by omega) hz, HB3.out⟩
        case measure => simp [intOf]; omega
    · have HT := Hid.mk ht
      clear ht
      go_wp2
      go_ret
      exact ⟨ret_int (ixF_none (n := k) (by have := HZ.out; omega) HT.out).symm, hbw⟩

set_option maxRecDepth 100000 in
set_option maxHeartbeats 8000000 in
theorem containsProc_any (F : Nat) (P : TProc → Bool) (hE : ∀ (args : Array Value) (w : World), (callFunc F args).run Try.prog w = .ok (.enter F args) w) (hF : ∀  (zi0 : Int) (zi1 : Int) (bo2 : Bool)  (w : World), Calls Try.prog F #[.agg #[.int .i64 zi0, .int .i64 zi1, .bool bo2]] w fun e w' => e = .returned (.bool (P (zi0, zi1, bo2))) ∧ Below w.heap.size w w') (a : Option Addr) (n c : Nat) (xs : List TProc) (w : World) (hz : xs.length = n) (hn : n ≤ 9223372036854775807) (ha : AtSl RProc w a xs) :
    Calls Try.prog 50 #[.slice a n c, .func (.func F) #[] #[]] w fun e w' => e = .returned (.bool (xs.any P)) ∧ Below w.heap.size w w' := by
  have K := Hid.mk (indexProc_any F P hE hF a n c xs w hz hn ha)
  rw [← ixF_ge P xs]
  obtain ⟨q, hq⟩ : ∃ q, ixF P xs = q := ⟨_, rfl⟩
  rw [hq] at K ⊢
  clear ha hz hF hE hq
  go_enter Try.func50, Try.ntmps50
  go_wp2_with fail
  refine K.out.mono ?_
  rintro e w2 ⟨rfl, hb⟩
  clear K
  go_wp2
  go_ret
  exact ⟨rfl, hb⟩

end Go.Proofs.Ythfndafgllcelaa
