/- Contracts of the laws' eq of Snap, of equal ones. -/
import Derived.Test.YthfndafgllcelaaSnpT
import Derived.Test.YthfndafgllcelaaIntE
import Derived.Test.YthfndafgllcelaaPrE
import Derived.Test.YthfndafgllcelaaWiE
namespace Go.Proofs.Ythfndafgllcelaa
open Go.RowKit

set_option maxRecDepth 100000 in
set_option maxHeartbeats 8000000 in
theorem eqSnap_same (a0 : Option Addr) (n0 : Nat) (c0 : Nat) (a1 : Option Addr) (n1 : Nat) (c1 : Nat) (a0' : Option Addr) (c0' : Nat) (a1' : Option Addr) (c1' : Nat)  (x0 : List TProc) (x1 : List TWire) (w : World) (hz0 : x0.length = n0) (hs0 : n0 ≤ 1048576) (hz1 : x1.length = n1) (hs1 : n1 ≤ 1048576) (hd1 : ∀ (i : Nat) (x : TWire), x1[i]? = some x → costWire x ≤ 1048576) (ha0 : AtSl RProc w a0 x0) (hb0 : AtSl RProc w a0' x0) (ha1 : AtSl RWire w a1 x1) (hb1 : AtSl RWire w a1' x1) :
    Calls Try.prog 12 #[.agg #[.slice a0 n0 c0, .slice a1 n1 c1], .agg #[.slice a0' n0 c0', .slice a1' n1 c1']] w fun e w' => e = .returned (.bool true) ∧ Below w.heap.size w w' := by
  obtain ⟨W, hW⟩ : ∃ W, W = ((w.alloc (.cells #[.slice a0 n0 c0, .slice a1 n1 c1] 26)).alloc (.cells #[.slice a0' n0 c0', .slice a1' n1 c1'] 26)) := ⟨_, rfl⟩
  have B0 : Below w.heap.size w W := by rw [hW]; exact (((Below.refl _ _).alloc (Nat.le_refl _) _).alloc (by simp) _)
  have p1 : W.cell? ⟨w.heap.size, 1, none⟩ = some (.slice a1 n1 c1) := by rw [hW]; simp
  have r1 : W.cell? ⟨w.heap.size + 1, 1, none⟩ = some (.slice a1' n1 c1') := by rw [hW]; simp
  have HA0 := Hid.mk (And.intro ha0 hb0)
  have HZ0 := Hid.mk hz0
  clear ha0 hb0 hz0
  have HA1 := Hid.mk (And.intro ha1 hb1)
  have HZ1 := Hid.mk hz1
  clear ha1 hb1 hz1
  have HD1 := Hid.mk hd1
  clear hd1
  go_enter Try.func12, Try.ntmps12
  go_wp2_with fail
  rw [← hW]
  clear hW
  refine (eqProcS_same a0 a0' n0 c0 c0' x0 W HZ0.out hs0 (AtSl.below HA0.out.1 B0) (AtSl.below HA0.out.2 B0)).mono ?_
  rintro e w0 ⟨rfl, hb0⟩
  have B1 := B0.trans (hb0.mono B0.size)
  have p1 := cell_later hb0 p1
  have r1 := cell_later hb0 r1
  go_wp2_with fail
  refine (eqWireS_same a1 a1' n1 c1 c1' x1 w0 HZ1.out hs1 HD1.out (AtSl.below HA1.out.1 B1) (AtSl.below HA1.out.2 B1)).mono ?_
  rintro e w1 ⟨rfl, hb1⟩
  have B2 := B1.trans (hb1.mono B1.size)
  go_wp2
  go_ret
  exact ⟨rfl, B2⟩


end Go.Proofs.Ythfndafgllcelaa
