/- Several texts of one proof, in build order: LkT, IntE, LkE, IntM, LkM, LkW. -/
import Derived.Test.YtjjebodlekepaaaDoorM16
import Derived.Test.YtjjebodlekepaaaDoorM12
import Derived.Deep.CutBlock
import Derived.Test.YtjjebodlekepaaaDoorM3

/- Contract of the laws' toLocks. -/
namespace Go.Proofs.YtjjebodlekepaaaDoor
open Go.RowKit

set_option maxRecDepth 100000 in
set_option maxHeartbeats 8000000 in
theorem toLocks_any (a0 : Option Addr) (a1 : Option Addr) (a2 : Option Addr) (a3 : Option Addr) (a4 : Option Addr) (n0 n1 n2 n3 n4 : Nat) (c0 c1 c2 c3 c4 : Nat) (x0 : List TStep) (x1 : List TStep) (x2 : List TStep) (x3 : List Int) (x4 : List Int) (w : World) (hz0 : x0.length = n0) (hz1 : x1.length = n1) (hz2 : x2.length = n2) (hz3 : x3.length = n3) (hz4 : x4.length = n4) (hs0 : n0 ≤ 1048576) (hs1 : n1 ≤ 1048576) (hs2 : n2 ≤ 1048576) (hs3 : n3 ≤ 1048576) (hs4 : n4 ≤ 1048576) (ha0 : At w a0 (flStep x0)) (ha1 : At w a1 (flStep x1)) (ha2 : At w a2 (flStep x2)) (ha3 : At w a3 x3) (ha4 : At w a4 x4) :
    Calls Tryd.prog 9 #[.agg #[.slice a0 n0 c0, .slice a1 n1 c1, .slice a2 n2 c2, .slice a3 n3 c3, .slice a4 n4 c4]] w fun e w' => ∃ g0 g1 g2 g3 g4, e = .returned (.agg #[.slice (some ⟨g0, 0, none⟩) n0 n0, .slice (some ⟨g1, 0, none⟩) n1 n1, .slice (some ⟨g2, 0, none⟩) n2 n2, .slice (some ⟨g3, 0, none⟩) n3 n3, .slice (some ⟨g4, 0, none⟩) n4 n4]) ∧
      RLks.Own w' (From w.heap.size w'.heap.size) [.slice (some ⟨g0, 0, none⟩) n0 n0, .slice (some ⟨g1, 0, none⟩) n1 n1, .slice (some ⟨g2, 0, none⟩) n2 n2, .slice (some ⟨g3, 0, none⟩) n3 n3, .slice (some ⟨g4, 0, none⟩) n4 n4] (x0, x1, x2, x3, x4) ∧ Below w.heap.size w w' := by
  obtain ⟨W, hW⟩ : ∃ W, W = (((w.alloc (.cells #[.slice a0 n0 c0, .slice a1 n1 c1, .slice a2 n2 c2, .slice a3 n3 c3, .slice a4 n4 c4] 25)).alloc (.cells #[.slice none 0 0, .slice none 0 0, .slice none 0 0, .slice none 0 0, .slice none 0 0] 30)).alloc (.cells #[.slice none 0 0, .slice none 0 0, .slice none 0 0, .slice none 0 0, .slice none 0 0] 30)) := ⟨_, rfl⟩
  have B0 : Below w.heap.size w W := by rw [hW]; exact ((((Below.refl _ _).alloc (Nat.le_refl _) _).alloc (by simp) _).alloc (by simp; omega) _)
  have zW : w.heap.size + 2 < W.heap.size := by rw [hW]; simp
  have b2 : W.heap[w.heap.size + 1 + 1]? = some (.cells #[.slice none 0 0, .slice none 0 0, .slice none 0 0, .slice none 0 0, .slice none 0 0] 30 (0, 0)) := by
    rw [hW]
    have q := heap_alloc_new ((w.alloc (.cells #[.slice a0 n0 c0, .slice a1 n1 c1, .slice a2 n2 c2, .slice a3 n3 c3, .slice a4 n4 c4] 25)).alloc (.cells #[.slice none 0 0, .slice none 0 0, .slice none 0 0, .slice none 0 0, .slice none 0 0] 30)) (.cells #[.slice none 0 0, .slice none 0 0, .slice none 0 0, .slice none 0 0, .slice none 0 0] 30)
    simpa only [World.size_alloc] using q
  have b1 : W.heap[w.heap.size + 1]? = some (.cells #[.slice none 0 0, .slice none 0 0, .slice none 0 0, .slice none 0 0, .slice none 0 0] 30 (0, 0)) := by
    rw [hW]
    refine blk_alloc ?_ _
    have q := heap_alloc_new (w.alloc (.cells #[.slice a0 n0 c0, .slice a1 n1 c1, .slice a2 n2 c2, .slice a3 n3 c3, .slice a4 n4 c4] 25)) (.cells #[.slice none 0 0, .slice none 0 0, .slice none 0 0, .slice none 0 0, .slice none 0 0] 30)
    simpa only [World.size_alloc] using q
  have b0 : W.heap[w.heap.size]? = some (.cells #[.slice a0 n0 c0, .slice a1 n1 c1, .slice a2 n2 c2, .slice a3 n3 c3, .slice a4 n4 c4] 25 (0, 0)) := by
    rw [hW]
    exact blk_alloc (blk_alloc (heap_alloc_new w _) _) _
  have HA0 := Hid.mk ha0
  have HZ0 := Hid.mk hz0
  have HA1 := Hid.mk ha1
  have HZ1 := Hid.mk hz1
  have HA2 := Hid.mk ha2
  have HZ2 := Hid.mk hz2
  have HA3 := Hid.mk ha3
  have HZ3 := Hid.mk hz3
  have HA4 := Hid.mk ha4
  have HZ4 := Hid.mk hz4
  clear ha0 hz0 ha1 hz1 ha2 hz2 ha3 hz3 ha4 hz4
  go_enter Tryd.func9, Tryd.ntmps9
  go_wp2_with fail
  rw [← hW]
  clear hW
  refine (toStepS_rep a0 n0 c0 x0 W HZ0.out hs0 (At.below HA0.out B0)).mono ?_
  rintro e w0 ⟨g0, rfl, o0, hb0⟩
  have k2 := blk_below b2 hb0
  have k1 := blk_below b1 hb0
  have k0 := blk_below b0 hb0
  clear b2 b1 b0
  have z0 := hb0.size
  have E0 : Below w.heap.size w w0 := B0.trans (hb0.mono (by omega))
  have q := blk_cell k2 0 (v := .slice none 0 0) rfl
  have f := blk_frozen k2 0
  have r := blk_cell k0 1 (v := .slice a1 n1 c1) rfl
  obtain ⟨X0, hX0⟩ : ∃ u, u = w0.setCell ⟨w.heap.size + 1 + 1, 0, none⟩ (.slice (some ⟨g0, 0, none⟩) n0 n0) := ⟨_, rfl⟩
  have y0 : w0.heap.size ≤ X0.heap.size := by rw [hX0]; simp [World.setCell]
  have b2 : X0.heap[w.heap.size + 1 + 1]? = some (.cells #[.slice (some ⟨g0, 0, none⟩) n0 n0, .slice none 0 0, .slice none 0 0, .slice none 0 0, .slice none 0 0] 30 (0, 0)) := by rw [hX0]; exact blk_set k2 0 _
  have b1 : X0.heap[w.heap.size + 1]? = some (.cells #[.slice none 0 0, .slice none 0 0, .slice none 0 0, .slice none 0 0, .slice none 0 0] 30 (0, 0)) := by rw [hX0]; exact blk_other k1 (by simp) _
  have b0 : X0.heap[w.heap.size]? = some (.cells #[.slice a0 n0 c0, .slice a1 n1 c1, .slice a2 n2 c2, .slice a3 n3 c3, .slice a4 n4 c4] 25 (0, 0)) := by rw [hX0]; exact blk_other k0 (by simp; omega) _
  have C0 : Below w.heap.size w X0 := by rw [hX0]; exact E0.setCell (by simp; omega) _
  have S0 : Hid (Off (From w.heap.size (w.heap.size + 3)) w0 X0) := by rw [hX0]; exact Off.set ⟨by simp; omega, by simp⟩ _
  have O0_0 := Hid.mk (RSteps.ownOff o0 S0.out (fun b h k => by have := h.1; have := k.2; omega))
  clear o0 hb0 S0 k2 k1 k0
  go_wp2_with fail
  rw [← hX0]
  clear hX0
  clear q f r
  refine (toStepS_rep a1 n1 c1 x1 X0 HZ1.out hs1 (At.below HA1.out C0)).mono ?_
  rintro e w1 ⟨g1, rfl, o1, hb1⟩
  have k2 := blk_below b2 hb1
  have k1 := blk_below b1 hb1
  have k0 := blk_below b0 hb1
  clear b2 b1 b0
  have z1 := hb1.size
  have E1 : Below w.heap.size w w1 := C0.trans (hb1.mono (by omega))
  have q := blk_cell k2 1 (v := .slice none 0 0) rfl
  have f := blk_frozen k2 1
  have r := blk_cell k0 2 (v := .slice a2 n2 c2) rfl
  obtain ⟨X1, hX1⟩ : ∃ u, u = w1.setCell ⟨w.heap.size + 1 + 1, 1, none⟩ (.slice (some ⟨g1, 0, none⟩) n1 n1) := ⟨_, rfl⟩
  have y1 : w1.heap.size ≤ X1.heap.size := by rw [hX1]; simp [World.setCell]
  have b2 : X1.heap[w.heap.size + 1 + 1]? = some (.cells #[.slice (some ⟨g0, 0, none⟩) n0 n0, .slice (some ⟨g1, 0, none⟩) n1 n1, .slice none 0 0, .slice none 0 0, .slice none 0 0] 30 (0, 0)) := by rw [hX1]; exact blk_set k2 1 _
  have b1 : X1.heap[w.heap.size + 1]? = some (.cells #[.slice none 0 0, .slice none 0 0, .slice none 0 0, .slice none 0 0, .slice none 0 0] 30 (0, 0)) := by rw [hX1]; exact blk_other k1 (by simp) _
  have b0 : X1.heap[w.heap.size]? = some (.cells #[.slice a0 n0 c0, .slice a1 n1 c1, .slice a2 n2 c2, .slice a3 n3 c3, .slice a4 n4 c4] 25 (0, 0)) := by rw [hX1]; exact blk_other k0 (by simp; omega) _
  have C1 : Below w.heap.size w X1 := by rw [hX1]; exact E1.setCell (by simp; omega) _
  have S1 : Hid (Off (From w.heap.size (w.heap.size + 3)) w1 X1) := by rw [hX1]; exact Off.set ⟨by simp; omega, by simp⟩ _
  have O0_1 := Hid.mk (RSteps.ownOff (RSteps.ownBelow O0_0.out hb1) S1.out (fun b h k => by have := h.1; have := k.2; omega))
  clear O0_0
  have O1_1 := Hid.mk (RSteps.ownOff o1 S1.out (fun b h k => by have := h.1; have := k.2; omega))
  clear o1 hb1 S1 k2 k1 k0
  go_wp2_with fail
  rw [← hX1]
  clear hX1
  clear q f r
  refine (toStepS_rep a2 n2 c2 x2 X1 HZ2.out hs2 (At.below HA2.out C1)).mono ?_
  rintro e w2 ⟨g2, rfl, o2, hb2⟩
  have k2 := blk_below b2 hb2
  have k1 := blk_below b1 hb2
  have k0 := blk_below b0 hb2
  clear b2 b1 b0
  have z2 := hb2.size
  have E2 : Below w.heap.size w w2 := C1.trans (hb2.mono (by omega))
  have q := blk_cell k2 2 (v := .slice none 0 0) rfl
  have f := blk_frozen k2 2
  have r := blk_cell k0 3 (v := .slice a3 n3 c3) rfl
  obtain ⟨X2, hX2⟩ : ∃ u, u = w2.setCell ⟨w.heap.size + 1 + 1, 2, none⟩ (.slice (some ⟨g2, 0, none⟩) n2 n2) := ⟨_, rfl⟩
  have y2 : w2.heap.size ≤ X2.heap.size := by rw [hX2]; simp [World.setCell]
  have b2 : X2.heap[w.heap.size + 1 + 1]? = some (.cells #[.slice (some ⟨g0, 0, none⟩) n0 n0, .slice (some ⟨g1, 0, none⟩) n1 n1, .slice (some ⟨g2, 0, none⟩) n2 n2, .slice none 0 0, .slice none 0 0] 30 (0, 0)) := by rw [hX2]; exact blk_set k2 2 _
  have b1 : X2.heap[w.heap.size + 1]? = some (.cells #[.slice none 0 0, .slice none 0 0, .slice none 0 0, .slice none 0 0, .slice none 0 0] 30 (0, 0)) := by rw [hX2]; exact blk_other k1 (by simp) _
  have b0 : X2.heap[w.heap.size]? = some (.cells #[.slice a0 n0 c0, .slice a1 n1 c1, .slice a2 n2 c2, .slice a3 n3 c3, .slice a4 n4 c4] 25 (0, 0)) := by rw [hX2]; exact blk_other k0 (by simp; omega) _
  have C2 : Below w.heap.size w X2 := by rw [hX2]; exact E2.setCell (by simp; omega) _
  have S2 : Hid (Off (From w.heap.size (w.heap.size + 3)) w2 X2) := by rw [hX2]; exact Off.set ⟨by simp; omega, by simp⟩ _
  have O0_2 := Hid.mk (RSteps.ownOff (RSteps.ownBelow O0_1.out hb2) S2.out (fun b h k => by have := h.1; have := k.2; omega))
  clear O0_1
  have O1_2 := Hid.mk (RSteps.ownOff (RSteps.ownBelow O1_1.out hb2) S2.out (fun b h k => by have := h.1; have := k.2; omega))
  clear O1_1
  have O2_2 := Hid.mk (RSteps.ownOff o2 S2.out (fun b h k => by have := h.1; have := k.2; omega))
  clear o2 hb2 S2 k2 k1 k0
  go_wp2_with fail
  rw [← hX2]
  clear hX2
  clear q f r
  refine (toInts_rep a3 n3 c3 x3 X2 HZ3.out hs3 (At.below HA3.out C2)).mono ?_
  rintro e w3 ⟨g3, rfl, o3, hb3⟩
  have k2 := blk_below b2 hb3
  have k1 := blk_below b1 hb3
  have k0 := blk_below b0 hb3
  clear b2 b1 b0
  have z3 := hb3.size
  have E3 : Below w.heap.size w w3 := C2.trans (hb3.mono (by omega))
  have q := blk_cell k2 3 (v := .slice none 0 0) rfl
  have f := blk_frozen k2 3
  have r := blk_cell k0 4 (v := .slice a4 n4 c4) rfl
  obtain ⟨X3, hX3⟩ : ∃ u, u = w3.setCell ⟨w.heap.size + 1 + 1, 3, none⟩ (.slice (some ⟨g3, 0, none⟩) n3 n3) := ⟨_, rfl⟩
  have y3 : w3.heap.size ≤ X3.heap.size := by rw [hX3]; simp [World.setCell]
  have b2 : X3.heap[w.heap.size + 1 + 1]? = some (.cells #[.slice (some ⟨g0, 0, none⟩) n0 n0, .slice (some ⟨g1, 0, none⟩) n1 n1, .slice (some ⟨g2, 0, none⟩) n2 n2, .slice (some ⟨g3, 0, none⟩) n3 n3, .slice none 0 0] 30 (0, 0)) := by rw [hX3]; exact blk_set k2 3 _
  have b1 : X3.heap[w.heap.size + 1]? = some (.cells #[.slice none 0 0, .slice none 0 0, .slice none 0 0, .slice none 0 0, .slice none 0 0] 30 (0, 0)) := by rw [hX3]; exact blk_other k1 (by simp) _
  have b0 : X3.heap[w.heap.size]? = some (.cells #[.slice a0 n0 c0, .slice a1 n1 c1, .slice a2 n2 c2, .slice a3 n3 c3, .slice a4 n4 c4] 25 (0, 0)) := by rw [hX3]; exact blk_other k0 (by simp; omega) _
  have C3 : Below w.heap.size w X3 := by rw [hX3]; exact E3.setCell (by simp; omega) _
  have S3 : Hid (Off (From w.heap.size (w.heap.size + 3)) w3 X3) := by rw [hX3]; exact Off.set ⟨by simp; omega, by simp⟩ _
  have O0_3 := Hid.mk (RSteps.ownOff (RSteps.ownBelow O0_2.out hb3) S3.out (fun b h k => by have := h.1; have := k.2; omega))
  clear O0_2
  have O1_3 := Hid.mk (RSteps.ownOff (RSteps.ownBelow O1_2.out hb3) S3.out (fun b h k => by have := h.1; have := k.2; omega))
  clear O1_2
  have O2_3 := Hid.mk (RSteps.ownOff (RSteps.ownBelow O2_2.out hb3) S3.out (fun b h k => by have := h.1; have := k.2; omega))
  clear O2_2
  have O3_3 := Hid.mk (RInts.ownOff o3 S3.out (fun b h k => by have := h.1; have := k.2; omega))
  clear o3 hb3 S3 k2 k1 k0
  go_wp2_with fail
  rw [← hX3]
  clear hX3
  clear q f r
  refine (toInts_rep a4 n4 c4 x4 X3 HZ4.out hs4 (At.below HA4.out C3)).mono ?_
  rintro e w4 ⟨g4, rfl, o4, hb4⟩
  have k2 := blk_below b2 hb4
  have k1 := blk_below b1 hb4
  have k0 := blk_below b0 hb4
  clear b2 b1 b0
  have z4 := hb4.size
  have E4 : Below w.heap.size w w4 := C3.trans (hb4.mono (by omega))
  have q := blk_cell k2 4 (v := .slice none 0 0) rfl
  have f := blk_frozen k2 4
  have r : True := trivial
  obtain ⟨X4, hX4⟩ : ∃ u, u = w4.setCell ⟨w.heap.size + 1 + 1, 4, none⟩ (.slice (some ⟨g4, 0, none⟩) n4 n4) := ⟨_, rfl⟩
  have y4 : w4.heap.size ≤ X4.heap.size := by rw [hX4]; simp [World.setCell]
  have b2 : X4.heap[w.heap.size + 1 + 1]? = some (.cells #[.slice (some ⟨g0, 0, none⟩) n0 n0, .slice (some ⟨g1, 0, none⟩) n1 n1, .slice (some ⟨g2, 0, none⟩) n2 n2, .slice (some ⟨g3, 0, none⟩) n3 n3, .slice (some ⟨g4, 0, none⟩) n4 n4] 30 (0, 0)) := by rw [hX4]; exact blk_set k2 4 _
  have b1 : X4.heap[w.heap.size + 1]? = some (.cells #[.slice none 0 0, .slice none 0 0, .slice none 0 0, .slice none 0 0, .slice none 0 0] 30 (0, 0)) := by rw [hX4]; exact blk_other k1 (by simp) _
  have b0 : X4.heap[w.heap.size]? = some (.cells #[.slice a0 n0 c0, .slice a1 n1 c1, .slice a2 n2 c2, .slice a3 n3 c3, .slice a4 n4 c4] 25 (0, 0)) := by rw [hX4]; exact blk_other k0 (by simp; omega) _
  have C4 : Below w.heap.size w X4 := by rw [hX4]; exact E4.setCell (by simp; omega) _
  have S4 : Hid (Off (From w.heap.size (w.heap.size + 3)) w4 X4) := by rw [hX4]; exact Off.set ⟨by simp; omega, by simp⟩ _
  have O0_4 := Hid.mk (RSteps.ownOff (RSteps.ownBelow O0_3.out hb4) S4.out (fun b h k => by have := h.1; have := k.2; omega))
  clear O0_3
  have O1_4 := Hid.mk (RSteps.ownOff (RSteps.ownBelow O1_3.out hb4) S4.out (fun b h k => by have := h.1; have := k.2; omega))
  clear O1_3
  have O2_4 := Hid.mk (RSteps.ownOff (RSteps.ownBelow O2_3.out hb4) S4.out (fun b h k => by have := h.1; have := k.2; omega))
  clear O2_3
  have O3_4 := Hid.mk (RInts.ownOff (RInts.ownBelow O3_3.out hb4) S4.out (fun b h k => by have := h.1; have := k.2; omega))
  clear O3_3
  have O4_4 := Hid.mk (RInts.ownOff o4 S4.out (fun b h k => by have := h.1; have := k.2; omega))
  clear o4 hb4 S4 k2 k1 k0
  go_upto_region 7 with fail
  rw [← hX4]
  clear hX4 q f r
  have u0 := blk_cell b2 0 (v := .slice (some ⟨g0, 0, none⟩) n0 n0) rfl
  have p0 := blk_cell b1 0 (v := .slice none 0 0) rfl
  have f0 := blk_frozen b1 0
  have u1 := blk_cell b2 1 (v := .slice (some ⟨g1, 0, none⟩) n1 n1) rfl
  have p1 := blk_cell b1 1 (v := .slice none 0 0) rfl
  have f1 := blk_frozen b1 1
  have u2 := blk_cell b2 2 (v := .slice (some ⟨g2, 0, none⟩) n2 n2) rfl
  have p2 := blk_cell b1 2 (v := .slice none 0 0) rfl
  have f2 := blk_frozen b1 2
  have u3 := blk_cell b2 3 (v := .slice (some ⟨g3, 0, none⟩) n3 n3) rfl
  have p3 := blk_cell b1 3 (v := .slice none 0 0) rfl
  have f3 := blk_frozen b1 3
  have u4 := blk_cell b2 4 (v := .slice (some ⟨g4, 0, none⟩) n4 n4) rfl
  have p4 := blk_cell b1 4 (v := .slice none 0 0) rfl
  have f4 := blk_frozen b1 4
  obtain ⟨Y, hY⟩ : ∃ u, u = stores X4 (w.heap.size + 1) 0 [.slice (some ⟨g0, 0, none⟩) n0 n0, .slice (some ⟨g1, 0, none⟩) n1 n1, .slice (some ⟨g2, 0, none⟩) n2 n2, .slice (some ⟨g3, 0, none⟩) n3 n3, .slice (some ⟨g4, 0, none⟩) n4 n4] := ⟨_, rfl⟩
  have D : Below w.heap.size w Y := by rw [hY]; exact stores_below _ _ _ _ C4 (by omega)
  have S : Off (From w.heap.size (w.heap.size + 3)) X4 Y := by rw [hY]; exact stores_off _ _ _ _ ⟨by omega, by omega⟩
  have zY : Y.heap.size = X4.heap.size := by rw [hY]; exact stores_size _ _ _ _
  have R : Hid (RLks.Own Y (From w.heap.size Y.heap.size) [.slice (some ⟨g0, 0, none⟩) n0 n0, .slice (some ⟨g1, 0, none⟩) n1 n1, .slice (some ⟨g2, 0, none⟩) n2 n2, .slice (some ⟨g3, 0, none⟩) n3 n3, .slice (some ⟨g4, 0, none⟩) n4 n4] (x0, x1, x2, x3, x4)) :=
    RLks.own_mk (RSteps.ownOff O0_4.out S (fun b h k => by have := h.1; have := k.2; omega)) (RSteps.ownOff O1_4.out S (fun b h k => by have := h.1; have := k.2; omega)) (RSteps.ownOff O2_4.out S (fun b h k => by have := h.1; have := k.2; omega)) (RInts.ownOff O3_4.out S (fun b h k => by have := h.1; have := k.2; omega)) (RInts.ownOff O4_4.out S (fun b h k => by have := h.1; have := k.2; omega)) (fun b h => ⟨by have := h.1; omega, by have := h.2; omega⟩) (fun b h => ⟨by have := h.1; omega, by have := h.2; omega⟩) (fun b h => ⟨by have := h.1; omega, by have := h.2; omega⟩) (fun b h => ⟨by have := h.1; omega, by have := h.2; omega⟩) (fun b h => ⟨by have := h.1; omega, by have := h.2; omega⟩) (fun b h k => by have := h.2; have := k.1; omega) (fun b h k => by have := h.2; have := k.1; omega) (fun b h k => by have := h.2; have := k.1; omega) (fun b h k => by have := h.2; have := k.1; omega) (fun b h k => by have := h.2; have := k.1; omega) (fun b h k => by have := h.2; have := k.1; omega) (fun b h k => by have := h.2; have := k.1; omega) (fun b h k => by have := h.2; have := k.1; omega) (fun b h k => by have := h.2; have := k.1; omega) (fun b h k => by have := h.2; have := k.1; omega)
  have HY := Hid.mk hY
  have HD := Hid.mk D
  clear S D hY zY b1 b2 C4 O0_4 O1_4 O2_4 O3_4 O4_4
  go_wp2
  refine bodyPost_ret (v := .agg #[.slice (some ⟨g0, 0, none⟩) n0 n0, .slice (some ⟨g1, 0, none⟩) n1 n1, .slice (some ⟨g2, 0, none⟩) n2 n2, .slice (some ⟨g3, 0, none⟩) n3 n3, .slice (some ⟨g4, 0, none⟩) n4 n4]) (by simp [results, Tryd.results9, go_sem, p0, p1, p2, p3, p4]) rfl ⟨g0, g1, g2, g3, g4, rfl, ?_, ?_⟩
  · have h := R.out
    rw [HY.out] at h
    exact h
  · have h := HD.out
    rw [HY.out] at h
    exact h

end Go.Proofs.YtjjebodlekepaaaDoor

/- Slices of numbers that are alike are held equal. -/
namespace Go.Proofs.YtjjebodlekepaaaDoor
open Go.RowKit

theorem eqIntS_same (a a' : Option Addr) (n c c' : Nat) (zs : List Int) (w : World) (hz : zs.length = n) (hn : n ≤ 1048576) (ha : At w a zs) (ha' : At w a' zs) :
    Calls Tryd.prog 40 #[.slice a n c, .slice a' n c'] w fun e w' => e = .returned (.bool true) ∧ Below w.heap.size w w' :=
  (eqIntS_any a a' n n c c' zs zs w hz hz hn hn ha ha').mono fun _ _ ⟨h1, h2⟩ => ⟨by rw [h1, decide_eq_true rfl], h2⟩
end Go.Proofs.YtjjebodlekepaaaDoor

/- Contract of the laws' eqLocks, of equal ones. -/
namespace Go.Proofs.YtjjebodlekepaaaDoor
open Go.RowKit

set_option maxRecDepth 100000 in
set_option maxHeartbeats 4000000 in
theorem eqLocks_same (a0 : Option Addr) (a1 : Option Addr) (a2 : Option Addr) (a3 : Option Addr) (a4 : Option Addr) (a0' : Option Addr) (a1' : Option Addr) (a2' : Option Addr) (a3' : Option Addr) (a4' : Option Addr) (n0 n1 n2 n3 n4 : Nat) (c0 c1 c2 c3 c4 : Nat) (c0' c1' c2' c3' c4' : Nat) (x0 : List TStep) (x1 : List TStep) (x2 : List TStep) (x3 : List Int) (x4 : List Int) (w : World) (hz0 : x0.length = n0) (hz1 : x1.length = n1) (hz2 : x2.length = n2) (hz3 : x3.length = n3) (hz4 : x4.length = n4) (hs0 : n0 ≤ 1048576) (hs1 : n1 ≤ 1048576) (hs2 : n2 ≤ 1048576) (hs3 : n3 ≤ 1048576) (hs4 : n4 ≤ 1048576) (ha0 : At w a0 (flStep x0)) (hb0 : At w a0' (flStep x0)) (ha1 : At w a1 (flStep x1)) (hb1 : At w a1' (flStep x1)) (ha2 : At w a2 (flStep x2)) (hb2 : At w a2' (flStep x2)) (ha3 : At w a3 x3) (hb3 : At w a3' x3) (ha4 : At w a4 x4) (hb4 : At w a4' x4) :
    Calls Tryd.prog 11 #[.agg #[.slice a0 n0 c0, .slice a1 n1 c1, .slice a2 n2 c2, .slice a3 n3 c3, .slice a4 n4 c4], .agg #[.slice a0' n0 c0', .slice a1' n1 c1', .slice a2' n2 c2', .slice a3' n3 c3', .slice a4' n4 c4']] w fun e w' => e = .returned (.bool true) ∧ Below w.heap.size w w' := by
  obtain ⟨W, hW⟩ : ∃ W, W = ((w.alloc (.cells #[.slice a0 n0 c0, .slice a1 n1 c1, .slice a2 n2 c2, .slice a3 n3 c3, .slice a4 n4 c4] 30)).alloc (.cells #[.slice a0' n0 c0', .slice a1' n1 c1', .slice a2' n2 c2', .slice a3' n3 c3', .slice a4' n4 c4'] 30)) := ⟨_, rfl⟩
  have B0 : Below w.heap.size w W := by rw [hW]; exact (((Below.refl _ _).alloc (Nat.le_refl _) _).alloc (by simp) _)
  have p1 : W.cell? ⟨w.heap.size, 1, none⟩ = some (.slice a1 n1 c1) := by rw [hW]; simp
  have r1 : W.cell? ⟨w.heap.size + 1, 1, none⟩ = some (.slice a1' n1 c1') := by rw [hW]; simp
  have p2 : W.cell? ⟨w.heap.size, 2, none⟩ = some (.slice a2 n2 c2) := by rw [hW]; simp
  have r2 : W.cell? ⟨w.heap.size + 1, 2, none⟩ = some (.slice a2' n2 c2') := by rw [hW]; simp
  have p3 : W.cell? ⟨w.heap.size, 3, none⟩ = some (.slice a3 n3 c3) := by rw [hW]; simp
  have r3 : W.cell? ⟨w.heap.size + 1, 3, none⟩ = some (.slice a3' n3 c3') := by rw [hW]; simp
  have p4 : W.cell? ⟨w.heap.size, 4, none⟩ = some (.slice a4 n4 c4) := by rw [hW]; simp
  have r4 : W.cell? ⟨w.heap.size + 1, 4, none⟩ = some (.slice a4' n4 c4') := by rw [hW]; simp
  have HA0 := Hid.mk (And.intro ha0 hb0)
  have HZ0 := Hid.mk hz0
  have HA1 := Hid.mk (And.intro ha1 hb1)
  have HZ1 := Hid.mk hz1
  have HA2 := Hid.mk (And.intro ha2 hb2)
  have HZ2 := Hid.mk hz2
  have HA3 := Hid.mk (And.intro ha3 hb3)
  have HZ3 := Hid.mk hz3
  have HA4 := Hid.mk (And.intro ha4 hb4)
  have HZ4 := Hid.mk hz4
  clear ha0 hb0 hz0 ha1 hb1 hz1 ha2 hb2 hz2 ha3 hb3 hz3 ha4 hb4 hz4
  go_enter Tryd.func11, Tryd.ntmps11
  go_wp2_with fail
  rw [← hW]
  clear hW
  refine (eqStepS_same a0 a0' n0 c0 c0' x0 W HZ0.out hs0 (At.below HA0.out.1 B0) (At.below HA0.out.2 B0)).mono ?_
  rintro e w0 ⟨rfl, hb0⟩
  have B1 := B0.trans (hb0.mono B0.size)
  have p1 := cell_later hb0 p1
  have r1 := cell_later hb0 r1
  have p2 := cell_later hb0 p2
  have r2 := cell_later hb0 r2
  have p3 := cell_later hb0 p3
  have r3 := cell_later hb0 r3
  have p4 := cell_later hb0 p4
  have r4 := cell_later hb0 r4
  go_wp2_with fail
  refine (eqStepS_same a1 a1' n1 c1 c1' x1 w0 HZ1.out hs1 (At.below HA1.out.1 B1) (At.below HA1.out.2 B1)).mono ?_
  rintro e w1 ⟨rfl, hb1⟩
  have B2 := B1.trans (hb1.mono B1.size)
  have p2 := cell_later hb1 p2
  have r2 := cell_later hb1 r2
  have p3 := cell_later hb1 p3
  have r3 := cell_later hb1 r3
  have p4 := cell_later hb1 p4
  have r4 := cell_later hb1 r4
  go_wp2_with fail
  refine (eqStepS_same a2 a2' n2 c2 c2' x2 w1 HZ2.out hs2 (At.below HA2.out.1 B2) (At.below HA2.out.2 B2)).mono ?_
  rintro e w2 ⟨rfl, hb2⟩
  have B3 := B2.trans (hb2.mono B2.size)
  have p3 := cell_later hb2 p3
  have r3 := cell_later hb2 r3
  have p4 := cell_later hb2 p4
  have r4 := cell_later hb2 r4
  go_wp2_with fail
  refine (eqIntS_same a3 a3' n3 c3 c3' x3 w2 HZ3.out hs3 (At.below HA3.out.1 B3) (At.below HA3.out.2 B3)).mono ?_
  rintro e w3 ⟨rfl, hb3⟩
  have B4 := B3.trans (hb3.mono B3.size)
  have p4 := cell_later hb3 p4
  have r4 := cell_later hb3 r4
  go_wp2_with fail
  refine (eqIntS_same a4 a4' n4 c4 c4' x4 w3 HZ4.out hs4 (At.below HA4.out.1 B4) (At.below HA4.out.2 B4)).mono ?_
  rintro e w4 ⟨rfl, hb4⟩
  have B5 := B4.trans (hb4.mono B4.size)
  go_wp2
  go_ret
  exact ⟨rfl, B5⟩

end Go.Proofs.YtjjebodlekepaaaDoor

/- Slices of numbers, marked, as things that are owned. -/
namespace Go.Proofs.YtjjebodlekepaaaDoor
open Go.RowKit

theorem markInts_rep (F : Nat → Prop) (a : Option Addr) (n c : Nat) (zs : List Int) (m : Int) (w : World) (hn : n ≤ 1048576) (h0 : 0 ≤ m) (h1 : m ≤ 268435456) (ho : RInts.Own w F [.slice a n c] zs) :
    Calls Tryd.prog 44 #[.slice a n c, .int .i64 m] w fun e w' => e = .returned (.int .i64 (m + n)) ∧ RInts.Own w' F [.slice a n c] (mkInts m zs) ∧ Off F w w' := by
  obtain ⟨h2, h3, h4, h5⟩ := RInts.own_iff.1 ho
  refine (markIntS_any 0 a n c _ m w hn h0 (by omega) h4).mono fun e w' ⟨e1, e2, e3⟩ => ⟨e1, RInts.own_iff.2 ⟨by unfold mkInts; rw [marks_length, h2], h3, by unfold mkInts; rw [h2]; exact e2, h5⟩, Off.grown e3 h5⟩
end Go.Proofs.YtjjebodlekepaaaDoor

/- Contracts of the laws' markLocks and heldLocks. -/
namespace Go.Proofs.YtjjebodlekepaaaDoor
open Go.RowKit

def mkLks (m : Int) (x : TLk) : TLk := ((mkSteps m x.1), (mkSteps (m + (x.1.length * 3 : Nat)) x.2.1), (mkSteps (m + (x.1.length * 3 : Nat) + (x.2.1.length * 3 : Nat)) x.2.2.1), (mkInts (m + (x.1.length * 3 : Nat) + (x.2.1.length * 3 : Nat) + (x.2.2.1.length * 3 : Nat)) x.2.2.2.1), (mkInts (m + (x.1.length * 3 : Nat) + (x.2.1.length * 3 : Nat) + (x.2.2.1.length * 3 : Nat) + (x.2.2.2.1.length : Nat)) x.2.2.2.2))
set_option maxRecDepth 100000 in
set_option maxHeartbeats 4000000 in
theorem markLocks_rep (F : Nat → Prop) (a0 : Option Addr) (a1 : Option Addr) (a2 : Option Addr) (a3 : Option Addr) (a4 : Option Addr) (n0 n1 n2 n3 n4 : Nat) (c0 c1 c2 c3 c4 : Nat) (x0 : List TStep) (x1 : List TStep) (x2 : List TStep) (x3 : List Int) (x4 : List Int) (m : Int) (w : World) (hs0 : n0 ≤ 1048576) (hs1 : n1 ≤ 1048576) (hs2 : n2 ≤ 1048576) (hs3 : n3 ≤ 1048576) (hs4 : n4 ≤ 1048576) (h0 : 0 ≤ m) (h1 : m ≤ 16777216) (hF : ∀ b, F b → b < w.heap.size) (ho : RLks.Own w F [.slice a0 n0 c0, .slice a1 n1 c1, .slice a2 n2 c2, .slice a3 n3 c3, .slice a4 n4 c4] (x0, x1, x2, x3, x4)) :
    Calls Tryd.prog 15 #[.agg #[.slice a0 n0 c0, .slice a1 n1 c1, .slice a2 n2 c2, .slice a3 n3 c3, .slice a4 n4 c4], .int .i64 m] w fun e w' => e = .returned (.int .i64 (m + (lkmk (x0, x1, x2, x3, x4) : Nat))) ∧ RLks.Own w' F [.slice a0 n0 c0, .slice a1 n1 c1, .slice a2 n2 c2, .slice a3 n3 c3, .slice a4 n4 c4] (mkLks m (x0, x1, x2, x3, x4)) ∧ Off F w w' := by
  have hAt := RLks.at_iff (RLks.toAt ho)
  obtain ⟨F0, F1, F2, F3, F4, o0, o1, o2, o3, o4, f0, f1, f2, f3, f4, d01, d02, d03, d04, d12, d13, d14, d23, d24, d34⟩ := RLks.own_open ho
  have hz0 : x0.length = n0 := hAt.1.1
  have hz1 : x1.length = n1 := hAt.2.1.1
  have hz2 : x2.length = n2 := hAt.2.2.1.1
  have hz3 : x3.length = n3 := hAt.2.2.2.1.1
  have hz4 : x4.length = n4 := hAt.2.2.2.2.1
  clear hAt ho
  have hv : lkmk (x0, x1, x2, x3, x4) = n0 * 3 + n1 * 3 + n2 * 3 + n3 + n4 := by unfold lkmk; simp only; rw [hz0, hz1, hz2, hz3, hz4]
  rw [hv]
  have HMK : Hid (mkLks m (x0, x1, x2, x3, x4) = ((mkSteps m x0), (mkSteps (m + (n0 * 3 : Nat)) x1), (mkSteps (m + (n0 * 3 : Nat) + (n1 * 3 : Nat)) x2), (mkInts (m + (n0 * 3 : Nat) + (n1 * 3 : Nat) + (n2 * 3 : Nat)) x3), (mkInts (m + (n0 * 3 : Nat) + (n1 * 3 : Nat) + (n2 * 3 : Nat) + (n3 : Nat)) x4))) := Hid.mk (by unfold mkLks; simp only [hz0, hz1, hz2, hz3])
  obtain ⟨W, hW⟩ : ∃ W, W = w.alloc (.cells #[.slice a0 n0 c0, .slice a1 n1 c1, .slice a2 n2 c2, .slice a3 n3 c3, .slice a4 n4 c4] 30) := ⟨_, rfl⟩
  have B0 : Below w.heap.size w W := by rw [hW]; exact (Below.refl _ _).alloc (Nat.le_refl _) _
  have p1 : W.cell? ⟨w.heap.size, 1, none⟩ = some (.slice a1 n1 c1) := by rw [hW]; simp
  have p2 : W.cell? ⟨w.heap.size, 2, none⟩ = some (.slice a2 n2 c2) := by rw [hW]; simp
  have p3 : W.cell? ⟨w.heap.size, 3, none⟩ = some (.slice a3 n3 c3) := by rw [hW]; simp
  have p4 : W.cell? ⟨w.heap.size, 4, none⟩ = some (.slice a4 n4 c4) := by rw [hW]; simp
  have O0 := Hid.mk (RSteps.ownBelow o0 B0)
  have HF0 : Hid (¬ F0 w.heap.size) := fun h => by have := hF _ (f0 _ h); omega
  have HI0 := Hid.mk f0
  have O1 := Hid.mk (RSteps.ownBelow o1 B0)
  have HF1 : Hid (¬ F1 w.heap.size) := fun h => by have := hF _ (f1 _ h); omega
  have HI1 := Hid.mk f1
  have O2 := Hid.mk (RSteps.ownBelow o2 B0)
  have HF2 : Hid (¬ F2 w.heap.size) := fun h => by have := hF _ (f2 _ h); omega
  have HI2 := Hid.mk f2
  have O3 := Hid.mk (RInts.ownBelow o3 B0)
  have HF3 : Hid (¬ F3 w.heap.size) := fun h => by have := hF _ (f3 _ h); omega
  have HI3 := Hid.mk f3
  have O4 := Hid.mk (RInts.ownBelow o4 B0)
  have HF4 : Hid (¬ F4 w.heap.size) := fun h => by have := hF _ (f4 _ h); omega
  have HI4 := Hid.mk f4
  have HD01 := Hid.mk d01
  have HD02 := Hid.mk d02
  have HD03 := Hid.mk d03
  have HD04 := Hid.mk d04
  have HD12 := Hid.mk d12
  have HD13 := Hid.mk d13
  have HD14 := Hid.mk d14
  have HD23 := Hid.mk d23
  have HD24 := Hid.mk d24
  have HD34 := Hid.mk d34
  have HO : Hid (Off F w W) := Hid.mk (Off.below B0)
  clear o0 f0 o1 f1 o2 f2 o3 f3 o4 f4 d01 d02 d03 d04 d12 d13 d14 d23 d24 d34 hz0 hz1 hz2 hz3 hz4 hv B0 hF
  go_enter Tryd.func15, Tryd.ntmps15
  go_wp2_with fail
  rw [← hW]
  clear hW
  refine (markStepS_rep F0 a0 n0 c0 x0 m W hs0 (by omega) (by omega) O0.out).mono ?_
  rintro e w0 ⟨rfl, r0, g0⟩
  have p1 := g0.cell p1 HF0.out
  have p2 := g0.cell p2 HF0.out
  have p3 := g0.cell p3 HF0.out
  have p4 := g0.cell p4 HF0.out
  clear O0
  have O0 := Hid.mk r0
  have O1 := Hid.mk (RSteps.ownOff O1.out g0 (fun b hb h => HD01.out b h hb))
  have O2 := Hid.mk (RSteps.ownOff O2.out g0 (fun b hb h => HD02.out b h hb))
  have O3 := Hid.mk (RInts.ownOff O3.out g0 (fun b hb h => HD03.out b h hb))
  have O4 := Hid.mk (RInts.ownOff O4.out g0 (fun b hb h => HD04.out b h hb))
  have HO := Hid.mk (HO.out.trans (g0.mono HI0.out))
  clear r0 g0
  go_wp2_with fail
  refine (markStepS_rep F1 a1 n1 c1 x1 (m + (n0 * 3 : Nat)) w0 hs1 (by omega) (by omega) O1.out).mono ?_
  rintro e w1 ⟨rfl, r1, g1⟩
  have p2 := g1.cell p2 HF1.out
  have p3 := g1.cell p3 HF1.out
  have p4 := g1.cell p4 HF1.out
  clear O1
  have O1 := Hid.mk r1
  have O0 := Hid.mk (RSteps.ownOff O0.out g1 (fun b hb h => HD01.out b hb h))
  have O2 := Hid.mk (RSteps.ownOff O2.out g1 (fun b hb h => HD12.out b h hb))
  have O3 := Hid.mk (RInts.ownOff O3.out g1 (fun b hb h => HD13.out b h hb))
  have O4 := Hid.mk (RInts.ownOff O4.out g1 (fun b hb h => HD14.out b h hb))
  have HO := Hid.mk (HO.out.trans (g1.mono HI1.out))
  clear r1 g1
  go_wp2_with fail
  refine (markStepS_rep F2 a2 n2 c2 x2 (m + (n0 * 3 : Nat) + (n1 * 3 : Nat)) w1 hs2 (by omega) (by omega) O2.out).mono ?_
  rintro e w2 ⟨rfl, r2, g2⟩
  have p3 := g2.cell p3 HF2.out
  have p4 := g2.cell p4 HF2.out
  clear O2
  have O2 := Hid.mk r2
  have O0 := Hid.mk (RSteps.ownOff O0.out g2 (fun b hb h => HD02.out b hb h))
  have O1 := Hid.mk (RSteps.ownOff O1.out g2 (fun b hb h => HD12.out b hb h))
  have O3 := Hid.mk (RInts.ownOff O3.out g2 (fun b hb h => HD23.out b h hb))
  have O4 := Hid.mk (RInts.ownOff O4.out g2 (fun b hb h => HD24.out b h hb))
  have HO := Hid.mk (HO.out.trans (g2.mono HI2.out))
  clear r2 g2
  go_wp2_with fail
  refine (markInts_rep F3 a3 n3 c3 x3 (m + (n0 * 3 : Nat) + (n1 * 3 : Nat) + (n2 * 3 : Nat)) w2 hs3 (by omega) (by omega) O3.out).mono ?_
  rintro e w3 ⟨rfl, r3, g3⟩
  have p4 := g3.cell p4 HF3.out
  clear O3
  have O3 := Hid.mk r3
  have O0 := Hid.mk (RSteps.ownOff O0.out g3 (fun b hb h => HD03.out b hb h))
  have O1 := Hid.mk (RSteps.ownOff O1.out g3 (fun b hb h => HD13.out b hb h))
  have O2 := Hid.mk (RSteps.ownOff O2.out g3 (fun b hb h => HD23.out b hb h))
  have O4 := Hid.mk (RInts.ownOff O4.out g3 (fun b hb h => HD34.out b h hb))
  have HO := Hid.mk (HO.out.trans (g3.mono HI3.out))
  clear r3 g3
  go_wp2_with fail
  refine (markInts_rep F4 a4 n4 c4 x4 (m + (n0 * 3 : Nat) + (n1 * 3 : Nat) + (n2 * 3 : Nat) + (n3 : Nat)) w3 hs4 (by omega) (by omega) O4.out).mono ?_
  rintro e w4 ⟨rfl, r4, g4⟩
  clear O4
  have O4 := Hid.mk r4
  have O0 := Hid.mk (RSteps.ownOff O0.out g4 (fun b hb h => HD04.out b hb h))
  have O1 := Hid.mk (RSteps.ownOff O1.out g4 (fun b hb h => HD14.out b hb h))
  have O2 := Hid.mk (RSteps.ownOff O2.out g4 (fun b hb h => HD24.out b hb h))
  have O3 := Hid.mk (RInts.ownOff O3.out g4 (fun b hb h => HD34.out b hb h))
  have HO := Hid.mk (HO.out.trans (g4.mono HI4.out))
  clear r4 g4
  have HR : Hid (RLks.Own w4 F [.slice a0 n0 c0, .slice a1 n1 c1, .slice a2 n2 c2, .slice a3 n3 c3, .slice a4 n4 c4] (mkLks m (x0, x1, x2, x3, x4))) := Hid.mk (by
    rw [HMK.out]
    exact RLks.own_mk O0.out O1.out O2.out O3.out O4.out HI0.out HI1.out HI2.out HI3.out HI4.out HD01.out HD02.out HD03.out HD04.out HD12.out HD13.out HD14.out HD23.out HD24.out HD34.out)
  clear O0 O1 O2 O3 O4 HMK
  go_wp2
  go_ret
  exact ⟨ret_int (by push_cast; omega), HR.out, HO.out⟩

end Go.Proofs.YtjjebodlekepaaaDoor

/- What the laws count for locks; their bound. -/
namespace Go.Proofs.YtjjebodlekepaaaDoor
open Go.RowKit

theorem szLocks_rep (a0 a1 a2 a3 a4 : Option Addr) (n0 n1 n2 n3 n4 c0 c1 c2 c3 c4 : Nat) (x0 x1 x2 : List TStep) (x3 x4 : List Int) (l : Int) (w : World) (hz : x0.length = n0 ∧ x1.length = n1 ∧ x2.length = n2 ∧ x3.length = n3 ∧ x4.length = n4)
    (hn0 : n0 ≤ 9223372036854775807) (hn1 : n1 ≤ 9223372036854775807) (hn2 : n2 ≤ 9223372036854775807) (hn3 : n3 ≤ 9223372036854775807) (hn4 : n4 ≤ 9223372036854775807) (h0 : 0 ≤ l) (h1 : l ≤ 1048576) :
    Calls Tryd.prog 7 #[.agg #[.slice a0 n0 c0, .slice a1 n1 c1, .slice a2 n2 c2, .slice a3 n3 c3, .slice a4 n4 c4], .int .i64 l] w fun e w' => e = .returned (.int .i64 (leftOf l (lkcost (x0, x1, x2, x3, x4) : Nat))) ∧ Below w.heap.size w w' := by
  rw [show lkcost (x0, x1, x2, x3, x4) = n0 + n1 + n2 + n3 + n4 by unfold lkcost; simp only; rw [hz.1, hz.2.1, hz.2.2.1, hz.2.2.2.1, hz.2.2.2.2]]
  exact szLocks_any a0 a1 a2 a3 a4 n0 n1 n2 n3 n4 c0 c1 c2 c3 c4 l w hn0 hn1 hn2 hn3 hn4 h0 h1
theorem lks_small {x0 x1 x2 : List TStep} {x3 x4 : List Int} {n0 n1 n2 n3 n4 : Nat} (hz : x0.length = n0 ∧ x1.length = n1 ∧ x2.length = n2 ∧ x3.length = n3 ∧ x4.length = n4) (h : lkcost (x0, x1, x2, x3, x4) ≤ 1048576) :
    n0 ≤ 1048576 ∧ n1 ≤ 1048576 ∧ n2 ≤ 1048576 ∧ n3 ≤ 1048576 ∧ n4 ≤ 1048576 ∧ lkmk (x0, x1, x2, x3, x4) ≤ 3145728 := by
  obtain ⟨h0, h1, h2, h3, h4⟩ := hz
  unfold lkcost at h
  unfold lkmk
  simp only at h ⊢
  rw [h0, h1, h2, h3, h4] at h ⊢
  omega

end Go.Proofs.YtjjebodlekepaaaDoor
