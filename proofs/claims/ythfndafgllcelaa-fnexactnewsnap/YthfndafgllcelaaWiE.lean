/- Contracts of the laws' eq of Wire, of equal ones. -/
import Derived.Test.YthfndafgllcelaaWiT
import Derived.Test.YthfndafgllcelaaIntE
namespace Go.Proofs.Ythfndafgllcelaa
open Go.RowKit

set_option maxRecDepth 100000 in
set_option maxHeartbeats 8000000 in
theorem eqWire_same (a0 : Option Addr) (n0 : Nat) (c0 : Nat) (a1 : Option Addr) (n1 : Nat) (c1 : Nat) (a0' : Option Addr) (c0' : Nat) (a1' : Option Addr) (c1' : Nat) (bo2 : Bool) (x0 : List Int) (x1 : List Int) (w : World) (hz0 : x0.length = n0) (hs0 : n0 ≤ 1048576) (hz1 : x1.length = n1) (hs1 : n1 ≤ 1048576) (ha0 : At w a0 x0) (hb0 : At w a0' x0) (ha1 : At w a1 x1) (hb1 : At w a1' x1) :
    Calls Try.prog 66 #[.agg #[.slice a0 n0 c0, .slice a1 n1 c1, .bool bo2], .agg #[.slice a0' n0 c0', .slice a1' n1 c1', .bool bo2]] w fun e w' => e = .returned (.bool true) ∧ Below w.heap.size w w' := by
  obtain ⟨W, hW⟩ : ∃ W, W = ((w.alloc (.cells #[.slice a0 n0 c0, .slice a1 n1 c1, .bool bo2] 74)).alloc (.cells #[.slice a0' n0 c0', .slice a1' n1 c1', .bool bo2] 74)) := ⟨_, rfl⟩
  have B0 : Below w.heap.size w W := by rw [hW]; exact (((Below.refl _ _).alloc (Nat.le_refl _) _).alloc (by simp) _)
  have p1 : W.cell? ⟨w.heap.size, 1, none⟩ = some (.slice a1 n1 c1) := by rw [hW]; simp
  have r1 : W.cell? ⟨w.heap.size + 1, 1, none⟩ = some (.slice a1' n1 c1') := by rw [hW]; simp
  have p2 : W.cell? ⟨w.heap.size, 2, none⟩ = some (.bool bo2) := by rw [hW]; simp
  have r2 : W.cell? ⟨w.heap.size + 1, 2, none⟩ = some (.bool bo2) := by rw [hW]; simp
  have HA0 := Hid.mk (And.intro ha0 hb0)
  have HZ0 := Hid.mk hz0
  clear ha0 hb0 hz0
  have HA1 := Hid.mk (And.intro ha1 hb1)
  have HZ1 := Hid.mk hz1
  clear ha1 hb1 hz1
  go_enter Try.func66, Try.ntmps66
  go_wp2_with fail
  rw [← hW]
  clear hW
  refine (eqIntS_same a0 a0' n0 c0 c0' x0 W HZ0.out hs0 (At.below HA0.out.1 B0) (At.below HA0.out.2 B0)).mono ?_
  rintro e w0 ⟨rfl, hb0⟩
  have B1 := B0.trans (hb0.mono B0.size)
  have p1 := cell_later hb0 p1
  have r1 := cell_later hb0 r1
  have p2 := cell_later hb0 p2
  have r2 := cell_later hb0 r2
  go_wp2_with fail
  refine (eqIntS_same a1 a1' n1 c1 c1' x1 w0 HZ1.out hs1 (At.below HA1.out.1 B1) (At.below HA1.out.2 B1)).mono ?_
  rintro e w1 ⟨rfl, hb1⟩
  have B2 := B1.trans (hb1.mono B1.size)
  have p2 := cell_later hb1 p2
  have r2 := cell_later hb1 r2
  go_wp2
  go_ret
  exact ⟨rfl, B2⟩

set_option maxRecDepth 100000 in
set_option maxHeartbeats 8000000 in
theorem eqWireS_same (a a' : Option Addr) (n c c' : Nat) (xs : List TWire) (w : World) (hz : xs.length = n) (hn : n ≤ 1048576) (hs : ∀ (i : Nat) (x : TWire), xs[i]? = some x → costWire x ≤ 1048576) (ha : AtSl RWire w a xs) (ha' : AtSl RWire w a' xs) :
    Calls Try.prog 39 #[.slice a n c, .slice a' n c'] w fun e w' => e = .returned (.bool true) ∧ Below w.heap.size w w' := by
  by_cases h0 : n = 0
  · subst h0
    go_enter Try.func39, Try.ntmps39
    go_wp2
    refine wp_loop_rounds 1 ?_
    rw [rounds_succ]
    go_wp2
    go_ret
    exact ⟨rfl, Below.refl _ _⟩
  · go_enter Try.func39, Try.ntmps39
    go_wp2
    go_loopw [5] (fun i wr => ∃ (k : Nat), k ≤ n ∧ i = .int .i64 k ∧ Below w.heap.size w wr) (fun i _ => n - (intOf i).toNat)
    case atStart => exact ⟨0, Nat.zero_le _, rfl, Below.refl _ _⟩
    case round =>
      obtain ⟨k, hk, rfl, hbw⟩ := hrel
      by_cases hlt : k < n
      · obtain ⟨b, off, rfl, _, hc⟩ := RWire.row (AtSl.below ha hbw) (by omega)
        obtain ⟨b', off', rfl, _, hc'⟩ := RWire.row (AtSl.below ha' hbw) (by omega)
        obtain ⟨⟨x0, x1, bo2⟩, hx⟩ : ∃ x, xs[k]? = some x := ⟨_, List.getElem?_eq_getElem (by omega)⟩
        obtain ⟨a0, n0, c0, a1, n1, c1, e0, e1, e2, ⟨hv0, hu0, hw0, _⟩, ⟨hv1, hu1, hw1, _⟩⟩ := hc k _ hx
        obtain ⟨a0', n0', c0', a1', n1', c1', d0, d1, d2, ⟨hv0', _, hw0', _⟩, ⟨hv1', _, hw1', _⟩⟩ := hc' k _ hx
        obtain rfl : n0 = n0' := hv0.symm.trans hv0'
        obtain rfl : n1 = n1' := hv1.symm.trans hv1'
        have hsm := smallWire hv0 hv1 (hs k _ hx)
        have hki : (k : Int) < (n : Int) := by omega
        have HE : Hid (∀ w' : World, Below wr.heap.size wr w' → Calls Try.prog 66 #[.agg #[.slice a0 n0 c0, .slice a1 n1 c1, .bool bo2], .agg #[.slice a0' n0 c0', .slice a1' n1 c1', .bool bo2]] w' fun e w'' => e = .returned (.bool true) ∧ Below w'.heap.size w' w'') :=
          fun w' hw' => eqWire_same a0 n0 c0 a1 n1 c1 a0' c0' a1' c1' bo2 x0 x1 w' hv0 hsm.1 hv1 hsm.2 (At.below hw0 hw') (At.below hw0' hw') (At.below hw1 hw') (At.below hw1' hw')
        clear hc hc' ha ha' hx hs hsm hv0 hw0 hv0' hw0' hv1 hw1 hv1' hw1'
        go_wp2_with fail
        go_region_held3 (fun w' => w'.cell? ⟨b, off + k * 3, none⟩ = some (.slice a0 n0 c0) ∧ w'.cell? ⟨b, off + k * 3 + 1, none⟩ = some (.slice a1 n1 c1) ∧ w'.cell? ⟨b, off + k * 3 + 2, none⟩ = some (.bool bo2) ∧ w'.cell? ⟨b', off' + k * 3, none⟩ = some (.slice a0' n0 c0') ∧ w'.cell? ⟨b', off' + k * 3 + 1, none⟩ = some (.slice a1' n1 c1') ∧ w'.cell? ⟨b', off' + k * 3 + 2, none⟩ = some (.bool bo2)) (refine ⟨?_, ?_, ?_, ?_, ?_, ?_⟩ <;> assumption)
          (first | (go_at_call 66; refine (HE.out wr.drew (Below.refl _ _).drew).mono ?_; rintro e w2 ⟨rfl, hb2⟩; have m0 := cell_later hb2 e0; have l0 := cell_later hb2 d0; have m1 := cell_later hb2 e1; have l1 := cell_later hb2 d1; have m2 := cell_later hb2 e2; have l2 := cell_later hb2 d2) | fail)
        go_wp2
        go_roundw
        case rel => exact ⟨k + 1, by omega, by go_num, hbw.drew.trans (hb2.mono hbw.size)⟩
        case measure => simp [intOf]; omega
      · go_wp2
        go_ret
        exact ⟨rfl, hbw⟩

end Go.Proofs.Ythfndafgllcelaa
