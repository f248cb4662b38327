/- Contracts of the laws' to of Snap. -/
import Derived.Test.YthfndafgllcelaaSnpG
import Derived.Test.YthfndafgllcelaaRepD
import Derived.Test.YthfndafgllcelaaBlk
import Derived.Deep.CutBlock
import Derived.Test.YthfndafgllcelaaPrT
import Derived.Test.YthfndafgllcelaaWiT
namespace Go.Proofs.Ythfndafgllcelaa
open Go.RowKit

set_option maxRecDepth 100000 in
set_option maxHeartbeats 8000000 in
theorem toSnap_rep (a0 : Option Addr) (n0 : Nat) (c0 : Nat) (a1 : Option Addr) (n1 : Nat) (c1 : Nat)  (x0 : List TProc) (x1 : List TWire) (w : World) (hz0 : x0.length = n0) (hs0 : n0 ≤ 1048576) (hz1 : x1.length = n1) (hs1 : n1 ≤ 1048576) (hd1 : ∀ (i : Nat) (x : TWire), x1[i]? = some x → costWire x ≤ 1048576) (ha0 : AtSl RProc w a0 x0) (ha1 : AtSl RWire w a1 x1) :
    Calls Try.prog 19 #[.agg #[.slice a0 n0 c0, .slice a1 n1 c1]] w fun e w' => ∃ g0 g1, e = .returned (.agg #[.slice (some ⟨g0, 0, none⟩) n0 n0, .slice (some ⟨g1, 0, none⟩) n1 n1]) ∧ RSnap.Own w' (From w.heap.size w'.heap.size) [.slice (some ⟨g0, 0, none⟩) n0 n0, .slice (some ⟨g1, 0, none⟩) n1 n1] (x0, x1) ∧ Below w.heap.size w w' := by
  obtain ⟨W, hW⟩ : ∃ W, W = (((w.alloc (.cells #[.slice a0 n0 c0, .slice a1 n1 c1] 38)).alloc (.cells #[.slice none 0 0, .slice none 0 0] 26)).alloc (.cells #[.slice none 0 0, .slice none 0 0] 26)) := ⟨_, rfl⟩
  have B0 : Below w.heap.size w W := by rw [hW]; exact ((((Below.refl _ _).alloc (Nat.le_refl _) _).alloc (by simp) _).alloc (by simp; omega) _)
  have zW : w.heap.size + 2 < W.heap.size := by rw [hW]; simp
  have b2 : W.heap[w.heap.size + 1 + 1]? = some (.cells #[.slice none 0 0, .slice none 0 0] 26 (0, 0)) := by
    rw [hW]
    have q := heap_alloc_new ((w.alloc (.cells #[.slice a0 n0 c0, .slice a1 n1 c1] 38)).alloc (.cells #[.slice none 0 0, .slice none 0 0] 26)) (.cells #[.slice none 0 0, .slice none 0 0] 26)
    simpa only [World.size_alloc] using q
  have b1 : W.heap[w.heap.size + 1]? = some (.cells #[.slice none 0 0, .slice none 0 0] 26 (0, 0)) := by
    rw [hW]
    refine blk_alloc ?_ _
    have q := heap_alloc_new (w.alloc (.cells #[.slice a0 n0 c0, .slice a1 n1 c1] 38)) (.cells #[.slice none 0 0, .slice none 0 0] 26)
    simpa only [World.size_alloc] using q
  have b0 : W.heap[w.heap.size]? = some (.cells #[.slice a0 n0 c0, .slice a1 n1 c1] 38 (0, 0)) := by
    rw [hW]
    exact blk_alloc (blk_alloc (heap_alloc_new w _) _) _
  have HA0 := Hid.mk ha0
  have HZ0 := Hid.mk hz0
  clear ha0 hz0
  have HA1 := Hid.mk ha1
  have HZ1 := Hid.mk hz1
  clear ha1 hz1
  have HD1 := Hid.mk hd1
  clear hd1
  go_enter Try.func19, Try.ntmps19
  go_wp2_with fail
  rw [← hW]
  clear hW
  refine (toProcS_rep a0 n0 c0 x0 W HZ0.out hs0 (AtSl.below HA0.out B0)).mono ?_
  rintro e w0 ⟨g0, rfl, o0, hb0⟩
  have k2 := blk_below b2 hb0
  have k1 := blk_below b1 hb0
  have k0 := blk_below b0 hb0
  clear b2 b1 b0
  have z0 := hb0.size
  have E0 : Below w.heap.size w w0 := B0.trans (hb0.mono (by omega))
  have q := blk_cell k2 0 (v := .slice none 0 0) rfl
  have f := blk_frozen k2 0
  have r := blk_cell k0 1 (v := .slice a1 n1 c1) rfl
  obtain ⟨X0, hX0⟩ : ∃ u, u = w0.setCell ⟨w.heap.size + 1 + 1, 0, none⟩ (.slice (some ⟨g0, 0, none⟩) n0 n0) := ⟨_, rfl⟩
  have y0 : w0.heap.size ≤ X0.heap.size := by rw [hX0]; simp [World.setCell]
  have b2 : X0.heap[w.heap.size + 1 + 1]? = some (.cells #[.slice (some ⟨g0, 0, none⟩) n0 n0, .slice none 0 0] 26 (0, 0)) := by rw [hX0]; exact blk_set k2 0 _
  have b1 : X0.heap[w.heap.size + 1]? = some (.cells #[.slice none 0 0, .slice none 0 0] 26 (0, 0)) := by rw [hX0]; exact blk_other k1 (by simp) _
  have b0 : X0.heap[w.heap.size]? = some (.cells #[.slice a0 n0 c0, .slice a1 n1 c1] 38 (0, 0)) := by rw [hX0]; exact blk_other k0 (by simp; omega) _
  have C0 : Below w.heap.size w X0 := by rw [hX0]; exact E0.setCell (by simp; omega) _
  have S0 : Hid (Off (From w.heap.size (w.heap.size + 3)) w0 X0) := by rw [hX0]; exact Off.set ⟨by simp; omega, by simp⟩ _
  have O0_0 := Hid.mk (RProcs.ownOff o0 S0.out (fun b h k => by have := h.1; have := k.2; omega))
  clear o0 hb0
  clear S0 k2 k1 k0
  go_wp2_with fail
  rw [← hX0]
  clear hX0
  clear q f r
  refine (toWireS_rep a1 n1 c1 x1 X0 HZ1.out hs1 HD1.out (AtSl.below HA1.out C0)).mono ?_
  rintro e w1 ⟨g1, rfl, o1, hb1⟩
  have k2 := blk_below b2 hb1
  have k1 := blk_below b1 hb1
  have k0 := blk_below b0 hb1
  clear b2 b1 b0
  have z1 := hb1.size
  have E1 : Below w.heap.size w w1 := C0.trans (hb1.mono (by omega))
  have q := blk_cell k2 1 (v := .slice none 0 0) rfl
  have f := blk_frozen k2 1
  have r : True := trivial
  obtain ⟨X1, hX1⟩ : ∃ u, u = w1.setCell ⟨w.heap.size + 1 + 1, 1, none⟩ (.slice (some ⟨g1, 0, none⟩) n1 n1) := ⟨_, rfl⟩
  have y1 : w1.heap.size ≤ X1.heap.size := by rw [hX1]; simp [World.setCell]
  have b2 : X1.heap[w.heap.size + 1 + 1]? = some (.cells #[.slice (some ⟨g0, 0, none⟩) n0 n0, .slice (some ⟨g1, 0, none⟩) n1 n1] 26 (0, 0)) := by rw [hX1]; exact blk_set k2 1 _
  have b1 : X1.heap[w.heap.size + 1]? = some (.cells #[.slice none 0 0, .slice none 0 0] 26 (0, 0)) := by rw [hX1]; exact blk_other k1 (by simp) _
  have b0 : X1.heap[w.heap.size]? = some (.cells #[.slice a0 n0 c0, .slice a1 n1 c1] 38 (0, 0)) := by rw [hX1]; exact blk_other k0 (by simp; omega) _
  have C1 : Below w.heap.size w X1 := by rw [hX1]; exact E1.setCell (by simp; omega) _
  have S1 : Hid (Off (From w.heap.size (w.heap.size + 3)) w1 X1) := by rw [hX1]; exact Off.set ⟨by simp; omega, by simp⟩ _
  have O0_1 := Hid.mk (RProcs.ownOff (RProcs.ownBelow O0_0.out hb1) S1.out (fun b h k => by have := h.1; have := k.2; omega))
  clear O0_0
  have O1_1 := Hid.mk (RWires.ownOff o1 S1.out (fun b h k => by have := h.1; have := k.2; omega))
  clear o1 hb1
  clear S1 k2 k1 k0
  go_upto_region 4 with fail
  rw [← hX1]
  clear hX1 q f r
  have u0 := blk_cell b2 0 (v := .slice (some ⟨g0, 0, none⟩) n0 n0) rfl
  have p0 := blk_cell b1 0 (v := .slice none 0 0) rfl
  have f0 := blk_frozen b1 0
  have u1 := blk_cell b2 1 (v := .slice (some ⟨g1, 0, none⟩) n1 n1) rfl
  have p1 := blk_cell b1 1 (v := .slice none 0 0) rfl
  have f1 := blk_frozen b1 1
  obtain ⟨Y, hY⟩ : ∃ u, u = stores X1 (w.heap.size + 1) 0 [.slice (some ⟨g0, 0, none⟩) n0 n0, .slice (some ⟨g1, 0, none⟩) n1 n1] := ⟨_, rfl⟩
  have D : Below w.heap.size w Y := by rw [hY]; exact stores_below _ _ _ _ C1 (by omega)
  have S : Off (From w.heap.size (w.heap.size + 3)) X1 Y := by rw [hY]; exact stores_off _ _ _ _ ⟨by omega, by omega⟩
  have zY : Y.heap.size = X1.heap.size := by rw [hY]; exact stores_size _ _ _ _
  have R : Hid (RSnap.Own Y (From w.heap.size Y.heap.size) [.slice (some ⟨g0, 0, none⟩) n0 n0, .slice (some ⟨g1, 0, none⟩) n1 n1] (x0, x1)) :=
    RSnap.own_mk (RProcs.ownOff O0_1.out S (fun b h k => by have := h.1; have := k.2; omega)) (RWires.ownOff O1_1.out S (fun b h k => by have := h.1; have := k.2; omega)) (fun b h => ⟨by have := h.1; omega, by have := h.2; omega⟩) (fun b h => ⟨by have := h.1; omega, by have := h.2; omega⟩) (fun b h k => by have := h.2; have := k.1; omega)
  have HY := Hid.mk hY
  have HD := Hid.mk D
  clear S D hY zY b1 b2 b0 C1 O0_1 O1_1
  go_wp2
  refine bodyPost_ret (v := .agg #[.slice (some ⟨g0, 0, none⟩) n0 n0, .slice (some ⟨g1, 0, none⟩) n1 n1]) (by simp [results, Try.results19, go_sem, p0, p1]) rfl ⟨g0, g1, rfl, ?_, ?_⟩
  · have h := R.out
    rw [HY.out] at h
    exact h
  · have h := HD.out
    rw [HY.out] at h
    exact h


end Go.Proofs.Ythfndafgllcelaa
