/- Several texts of one proof, in build order: SkkT, IntE, PpE, SkkE, IntM. -/
import Derived.Test.YtmbjmmnodcebbaaM4
import Derived.Test.YtmbjmmnodcebbaaM6
import Derived.Deep.CutBlock
import Derived.Test.YtmbjmmnodcebbaaM12
import Derived.Test.YtmbjmmnodcebbaaM3

/- Contracts of the laws' to of Sink. -/
namespace Go.Proofs.Ytmbjmmnodcebbaa
open Go.RowKit

set_option maxRecDepth 100000 in
set_option maxHeartbeats 8000000 in
theorem toSink_rep (a0 : Option Addr) (n0 : Nat) (c0 : Nat) (a2 : Option Addr) (n2 : Nat) (c2 : Nat) (a3 : Option Addr) (n3 : Nat) (c3 : Nat) (a4 : Option Addr) (n4 : Nat) (c4 : Nat) (zi1 : Int) (zi5 : Int) (zi6 : Int) (x0 : List Int) (x2 : List Int) (x3 : List TPrepared) (x4 : List Int) (w : World) (hz0 : x0.length = n0) (hs0 : n0 ≤ 1048576) (hz2 : x2.length = n2) (hs2 : n2 ≤ 1048576) (hz3 : x3.length = n3) (hs3 : n3 ≤ 1048576) (hd3 : ∀ (i : Nat) (x : TPrepared), x3[i]? = some x → costPrepared x ≤ 1048576) (hz4 : x4.length = n4) (hs4 : n4 ≤ 1048576) (ha0 : At w a0 x0) (ha2 : At w a2 x2) (ha3 : AtSl RPrepared w a3 x3) (ha4 : At w a4 x4) :
    Calls Try.prog 8 #[.agg #[.slice a0 n0 c0, .int .i64 zi1, .slice a2 n2 c2, .slice a3 n3 c3, .slice a4 n4 c4, .int .i64 zi5, .int .i64 zi6]] w fun e w' => ∃ g0 g2 g3 g4, e = .returned (.agg #[.slice (some ⟨g0, 0, none⟩) n0 n0, .int .i64 zi1, .slice (some ⟨g2, 0, none⟩) n2 n2, .slice (some ⟨g3, 0, none⟩) n3 n3, .slice (some ⟨g4, 0, none⟩) n4 n4, .int .i64 zi5, .int .i64 zi6]) ∧ RSink.Own w' (From w.heap.size w'.heap.size) [.slice (some ⟨g0, 0, none⟩) n0 n0, .int .i64 zi1, .slice (some ⟨g2, 0, none⟩) n2 n2, .slice (some ⟨g3, 0, none⟩) n3 n3, .slice (some ⟨g4, 0, none⟩) n4 n4, .int .i64 zi5, .int .i64 zi6] (x0, zi1, x2, x3, x4, zi5, zi6) ∧ Below w.heap.size w w' := by
  obtain ⟨W, hW⟩ : ∃ W, W = (((w.alloc (.cells #[.slice a0 n0 c0, .int .i64 zi1, .slice a2 n2 c2, .slice a3 n3 c3, .slice a4 n4 c4, .int .i64 zi5, .int .i64 zi6] 25)).alloc (.cells #[.slice none 0 0, .int .i64 0, .slice none 0 0, .slice none 0 0, .slice none 0 0, .int .i64 0, .int .i64 0] 29)).alloc (.cells #[.slice none 0 0, .int .i64 0, .slice none 0 0, .slice none 0 0, .slice none 0 0, .int .i64 0, .int .i64 0] 29)) := ⟨_, rfl⟩
  have B0 : Below w.heap.size w W := by rw [hW]; exact ((((Below.refl _ _).alloc (Nat.le_refl _) _).alloc (by simp) _).alloc (by simp; omega) _)
  have zW : w.heap.size + 2 < W.heap.size := by rw [hW]; simp
  have b2 : W.heap[w.heap.size + 1 + 1]? = some (.cells #[.slice none 0 0, .int .i64 0, .slice none 0 0, .slice none 0 0, .slice none 0 0, .int .i64 0, .int .i64 0] 29 (0, 0)) := by
    rw [hW]
    have q := heap_alloc_new ((w.alloc (.cells #[.slice a0 n0 c0, .int .i64 zi1, .slice a2 n2 c2, .slice a3 n3 c3, .slice a4 n4 c4, .int .i64 zi5, .int .i64 zi6] 25)).alloc (.cells #[.slice none 0 0, .int .i64 0, .slice none 0 0, .slice none 0 0, .slice none 0 0, .int .i64 0, .int .i64 0] 29)) (.cells #[.slice none 0 0, .int .i64 0, .slice none 0 0, .slice none 0 0, .slice none 0 0, .int .i64 0, .int .i64 0] 29)
    simpa only [World.size_alloc] using q
  have b1 : W.heap[w.heap.size + 1]? = some (.cells #[.slice none 0 0, .int .i64 0, .slice none 0 0, .slice none 0 0, .slice none 0 0, .int .i64 0, .int .i64 0] 29 (0, 0)) := by
    rw [hW]
    refine blk_alloc ?_ _
    have q := heap_alloc_new (w.alloc (.cells #[.slice a0 n0 c0, .int .i64 zi1, .slice a2 n2 c2, .slice a3 n3 c3, .slice a4 n4 c4, .int .i64 zi5, .int .i64 zi6] 25)) (.cells #[.slice none 0 0, .int .i64 0, .slice none 0 0, .slice none 0 0, .slice none 0 0, .int .i64 0, .int .i64 0] 29)
    simpa only [World.size_alloc] using q
  have b0 : W.heap[w.heap.size]? = some (.cells #[.slice a0 n0 c0, .int .i64 zi1, .slice a2 n2 c2, .slice a3 n3 c3, .slice a4 n4 c4, .int .i64 zi5, .int .i64 zi6] 25 (0, 0)) := by
    rw [hW]
    exact blk_alloc (blk_alloc (heap_alloc_new w _) _) _
  have HA0 := Hid.mk ha0
  have HZ0 := Hid.mk hz0
  clear ha0 hz0
  have HA2 := Hid.mk ha2
  have HZ2 := Hid.mk hz2
  clear ha2 hz2
  have HA3 := Hid.mk ha3
  have HZ3 := Hid.mk hz3
  clear ha3 hz3
  have HD3 := Hid.mk hd3
  clear hd3
  have HA4 := Hid.mk ha4
  have HZ4 := Hid.mk hz4
  clear ha4 hz4
  go_enter Try.func8, Try.ntmps8
  go_wp2_with fail
  rw [← hW]
  clear hW
  refine (toInts_rep a0 n0 c0 x0 W HZ0.out hs0 (At.below HA0.out B0)).mono ?_
  rintro e w0 ⟨g0, rfl, o0, hb0⟩
  have k2 := blk_below b2 hb0
  have k1 := blk_below b1 hb0
  have k0 := blk_below b0 hb0
  clear b2 b1 b0
  have z0 := hb0.size
  have E0 : Below w.heap.size w w0 := B0.trans (hb0.mono (by omega))
  have q := blk_cell k2 0 (v := .slice none 0 0) rfl
  have f := blk_frozen k2 0
  have r : True := trivial
  obtain ⟨X0, hX0⟩ : ∃ u, u = w0.setCell ⟨w.heap.size + 1 + 1, 0, none⟩ (.slice (some ⟨g0, 0, none⟩) n0 n0) := ⟨_, rfl⟩
  have y0 : w0.heap.size ≤ X0.heap.size := by rw [hX0]; simp [World.setCell]
  have b2 : X0.heap[w.heap.size + 1 + 1]? = some (.cells #[.slice (some ⟨g0, 0, none⟩) n0 n0, .int .i64 0, .slice none 0 0, .slice none 0 0, .slice none 0 0, .int .i64 0, .int .i64 0] 29 (0, 0)) := by rw [hX0]; exact blk_set k2 0 _
  have b1 : X0.heap[w.heap.size + 1]? = some (.cells #[.slice none 0 0, .int .i64 0, .slice none 0 0, .slice none 0 0, .slice none 0 0, .int .i64 0, .int .i64 0] 29 (0, 0)) := by rw [hX0]; exact blk_other k1 (by simp) _
  have b0 : X0.heap[w.heap.size]? = some (.cells #[.slice a0 n0 c0, .int .i64 zi1, .slice a2 n2 c2, .slice a3 n3 c3, .slice a4 n4 c4, .int .i64 zi5, .int .i64 zi6] 25 (0, 0)) := by rw [hX0]; exact blk_other k0 (by simp; omega) _
  have C0 : Below w.heap.size w X0 := by rw [hX0]; exact E0.setCell (by simp; omega) _
  have S0 : Hid (Off (From w.heap.size (w.heap.size + 3)) w0 X0) := by rw [hX0]; exact Off.set ⟨by simp; omega, by simp⟩ _
  have O0_0 := Hid.mk (RInts.ownOff o0 S0.out (fun b h k => by have := h.1; have := k.2; omega))
  clear o0 hb0
  clear S0 k2 k1 k0
  go_upto_region 3 with fail
  rw [← hX0]
  clear hX0
  clear q f r
  have k2 := b2
  have k1 := b1
  have k0 := b0
  clear b2 b1 b0
  have q := blk_cell k2 1 (v := .int .i64 0) rfl
  have f := blk_frozen k2 1
  have r := blk_cell k0 1 (v := .int .i64 zi1) rfl
  have rn := blk_cell k0 2 (v := .slice a2 n2 c2) rfl
  obtain ⟨X1, hX1⟩ : ∃ u, u = X0.setCell ⟨w.heap.size + 1 + 1, 1, none⟩ (.int .i64 zi1) := ⟨_, rfl⟩
  have y1 : X0.heap.size ≤ X1.heap.size := by rw [hX1]; simp [World.setCell]
  have b2 : X1.heap[w.heap.size + 1 + 1]? = some (.cells #[.slice (some ⟨g0, 0, none⟩) n0 n0, .int .i64 zi1, .slice none 0 0, .slice none 0 0, .slice none 0 0, .int .i64 0, .int .i64 0] 29 (0, 0)) := by rw [hX1]; exact blk_set k2 1 _
  have b1 : X1.heap[w.heap.size + 1]? = some (.cells #[.slice none 0 0, .int .i64 0, .slice none 0 0, .slice none 0 0, .slice none 0 0, .int .i64 0, .int .i64 0] 29 (0, 0)) := by rw [hX1]; exact blk_other k1 (by simp) _
  have b0 : X1.heap[w.heap.size]? = some (.cells #[.slice a0 n0 c0, .int .i64 zi1, .slice a2 n2 c2, .slice a3 n3 c3, .slice a4 n4 c4, .int .i64 zi5, .int .i64 zi6] 25 (0, 0)) := by rw [hX1]; exact blk_other k0 (by simp; omega) _
  have C1 : Below w.heap.size w X1 := by rw [hX1]; exact C0.setCell (by simp; omega) _
  have S1 : Hid (Off (From w.heap.size (w.heap.size + 3)) X0 X1) := by rw [hX1]; exact Off.set ⟨by simp; omega, by simp⟩ _
  have O0_1 := Hid.mk (RInts.ownOff O0_0.out S1.out (fun b h k => by have := h.1; have := k.2; omega))
  clear O0_0
  clear S1 k2 k1 k0
  go_wp2_with fail
  rw [← hX1]
  clear hX1
  clear q f r rn
  refine (toInts_rep a2 n2 c2 x2 X1 HZ2.out hs2 (At.below HA2.out C1)).mono ?_
  rintro e w2 ⟨g2, rfl, o2, hb2⟩
  have k2 := blk_below b2 hb2
  have k1 := blk_below b1 hb2
  have k0 := blk_below b0 hb2
  clear b2 b1 b0
  have z2 := hb2.size
  have E2 : Below w.heap.size w w2 := C1.trans (hb2.mono (by omega))
  have q := blk_cell k2 2 (v := .slice none 0 0) rfl
  have f := blk_frozen k2 2
  have r := blk_cell k0 3 (v := .slice a3 n3 c3) rfl
  obtain ⟨X2, hX2⟩ : ∃ u, u = w2.setCell ⟨w.heap.size + 1 + 1, 2, none⟩ (.slice (some ⟨g2, 0, none⟩) n2 n2) := ⟨_, rfl⟩
  have y2 : w2.heap.size ≤ X2.heap.size := by rw [hX2]; simp [World.setCell]
  have b2 : X2.heap[w.heap.size + 1 + 1]? = some (.cells #[.slice (some ⟨g0, 0, none⟩) n0 n0, .int .i64 zi1, .slice (some ⟨g2, 0, none⟩) n2 n2, .slice none 0 0, .slice none 0 0, .int .i64 0, .int .i64 0] 29 (0, 0)) := by rw [hX2]; exact blk_set k2 2 _
  have b1 : X2.heap[w.heap.size + 1]? = some (.cells #[.slice none 0 0, .int .i64 0, .slice none 0 0, .slice none 0 0, .slice none 0 0, .int .i64 0, .int .i64 0] 29 (0, 0)) := by rw [hX2]; exact blk_other k1 (by simp) _
  have b0 : X2.heap[w.heap.size]? = some (.cells #[.slice a0 n0 c0, .int .i64 zi1, .slice a2 n2 c2, .slice a3 n3 c3, .slice a4 n4 c4, .int .i64 zi5, .int .i64 zi6] 25 (0, 0)) := by rw [hX2]; exact blk_other k0 (by simp; omega) _
  have C2 : Below w.heap.size w X2 := by rw [hX2]; exact E2.setCell (by simp; omega) _
  have S2 : Hid (Off (From w.heap.size (w.heap.size + 3)) w2 X2) := by rw [hX2]; exact Off.set ⟨by simp; omega, by simp⟩ _
  have O0_2 := Hid.mk (RInts.ownOff (RInts.ownBelow O0_1.out hb2) S2.out (fun b h k => by have := h.1; have := k.2; omega))
  clear O0_1
  have O2_2 := Hid.mk (RInts.ownOff o2 S2.out (fun b h k => by have := h.1; have := k.2; omega))
  clear o2 hb2
  clear S2 k2 k1 k0
  go_wp2_with fail
  rw [← hX2]
  clear hX2
  clear q f r
  refine (toPreparedS_rep a3 n3 c3 x3 X2 HZ3.out hs3 HD3.out (AtSl.below HA3.out C2)).mono ?_
  rintro e w3 ⟨g3, rfl, o3, hb3⟩
  have k2 := blk_below b2 hb3
  have k1 := blk_below b1 hb3
  have k0 := blk_below b0 hb3
  clear b2 b1 b0
  have z3 := hb3.size
  have E3 : Below w.heap.size w w3 := C2.trans (hb3.mono (by omega))
  have q := blk_cell k2 3 (v := .slice none 0 0) rfl
  have f := blk_frozen k2 3
  have r := blk_cell k0 4 (v := .slice a4 n4 c4) rfl
  obtain ⟨X3, hX3⟩ : ∃ u, u = w3.setCell ⟨w.heap.size + 1 + 1, 3, none⟩ (.slice (some ⟨g3, 0, none⟩) n3 n3) := ⟨_, rfl⟩
  have y3 : w3.heap.size ≤ X3.heap.size := by rw [hX3]; simp [World.setCell]
  have b2 : X3.heap[w.heap.size + 1 + 1]? = some (.cells #[.slice (some ⟨g0, 0, none⟩) n0 n0, .int .i64 zi1, .slice (some ⟨g2, 0, none⟩) n2 n2, .slice (some ⟨g3, 0, none⟩) n3 n3, .slice none 0 0, .int .i64 0, .int .i64 0] 29 (0, 0)) := by rw [hX3]; exact blk_set k2 3 _
  have b1 : X3.heap[w.heap.size + 1]? = some (.cells #[.slice none 0 0, .int .i64 0, .slice none 0 0, .slice none 0 0, .slice none 0 0, .int .i64 0, .int .i64 0] 29 (0, 0)) := by rw [hX3]; exact blk_other k1 (by simp) _
  have b0 : X3.heap[w.heap.size]? = some (.cells #[.slice a0 n0 c0, .int .i64 zi1, .slice a2 n2 c2, .slice a3 n3 c3, .slice a4 n4 c4, .int .i64 zi5, .int .i64 zi6] 25 (0, 0)) := by rw [hX3]; exact blk_other k0 (by simp; omega) _
  have C3 : Below w.heap.size w X3 := by rw [hX3]; exact E3.setCell (by simp; omega) _
  have S3 : Hid (Off (From w.heap.size (w.heap.size + 3)) w3 X3) := by rw [hX3]; exact Off.set ⟨by simp; omega, by simp⟩ _
  have O0_3 := Hid.mk (RInts.ownOff (RInts.ownBelow O0_2.out hb3) S3.out (fun b h k => by have := h.1; have := k.2; omega))
  clear O0_2
  have O2_3 := Hid.mk (RInts.ownOff (RInts.ownBelow O2_2.out hb3) S3.out (fun b h k => by have := h.1; have := k.2; omega))
  clear O2_2
  have O3_3 := Hid.mk (RPrepareds.ownOff o3 S3.out (fun b h k => by have := h.1; have := k.2; omega))
  clear o3 hb3
  clear S3 k2 k1 k0
  go_wp2_with fail
  rw [← hX3]
  clear hX3
  clear q f r
  refine (toInts_rep a4 n4 c4 x4 X3 HZ4.out hs4 (At.below HA4.out C3)).mono ?_
  rintro e w4 ⟨g4, rfl, o4, hb4⟩
  have k2 := blk_below b2 hb4
  have k1 := blk_below b1 hb4
  have k0 := blk_below b0 hb4
  clear b2 b1 b0
  have z4 := hb4.size
  have E4 : Below w.heap.size w w4 := C3.trans (hb4.mono (by omega))
  have q := blk_cell k2 4 (v := .slice none 0 0) rfl
  have f := blk_frozen k2 4
  have r : True := trivial
  obtain ⟨X4, hX4⟩ : ∃ u, u = w4.setCell ⟨w.heap.size + 1 + 1, 4, none⟩ (.slice (some ⟨g4, 0, none⟩) n4 n4) := ⟨_, rfl⟩
  have y4 : w4.heap.size ≤ X4.heap.size := by rw [hX4]; simp [World.setCell]
  have b2 : X4.heap[w.heap.size + 1 + 1]? = some (.cells #[.slice (some ⟨g0, 0, none⟩) n0 n0, .int .i64 zi1, .slice (some ⟨g2, 0, none⟩) n2 n2, .slice (some ⟨g3, 0, none⟩) n3 n3, .slice (some ⟨g4, 0, none⟩) n4 n4, .int .i64 0, .int .i64 0] 29 (0, 0)) := by rw [hX4]; exact blk_set k2 4 _
  have b1 : X4.heap[w.heap.size + 1]? = some (.cells #[.slice none 0 0, .int .i64 0, .slice none 0 0, .slice none 0 0, .slice none 0 0, .int .i64 0, .int .i64 0] 29 (0, 0)) := by rw [hX4]; exact blk_other k1 (by simp) _
  have b0 : X4.heap[w.heap.size]? = some (.cells #[.slice a0 n0 c0, .int .i64 zi1, .slice a2 n2 c2, .slice a3 n3 c3, .slice a4 n4 c4, .int .i64 zi5, .int .i64 zi6] 25 (0, 0)) := by rw [hX4]; exact blk_other k0 (by simp; omega) _
  have C4 : Below w.heap.size w X4 := by rw [hX4]; exact E4.setCell (by simp; omega) _
  have S4 : Hid (Off (From w.heap.size (w.heap.size + 3)) w4 X4) := by rw [hX4]; exact Off.set ⟨by simp; omega, by simp⟩ _
  have O0_4 := Hid.mk (RInts.ownOff (RInts.ownBelow O0_3.out hb4) S4.out (fun b h k => by have := h.1; have := k.2; omega))
  clear O0_3
  have O2_4 := Hid.mk (RInts.ownOff (RInts.ownBelow O2_3.out hb4) S4.out (fun b h k => by have := h.1; have := k.2; omega))
  clear O2_3
  have O3_4 := Hid.mk (RPrepareds.ownOff (RPrepareds.ownBelow O3_3.out hb4) S4.out (fun b h k => by have := h.1; have := k.2; omega))
  clear O3_3
  have O4_4 := Hid.mk (RInts.ownOff o4 S4.out (fun b h k => by have := h.1; have := k.2; omega))
  clear o4 hb4
  clear S4 k2 k1 k0
  go_upto_region 7 with fail
  rw [← hX4]
  clear hX4
  clear q f r
  have k2 := b2
  have k1 := b1
  have k0 := b0
  clear b2 b1 b0
  have q := blk_cell k2 5 (v := .int .i64 0) rfl
  have f := blk_frozen k2 5
  have r := blk_cell k0 5 (v := .int .i64 zi5) rfl
  obtain ⟨X5, hX5⟩ : ∃ u, u = X4.setCell ⟨w.heap.size + 1 + 1, 5, none⟩ (.int .i64 zi5) := ⟨_, rfl⟩
  have y5 : X4.heap.size ≤ X5.heap.size := by rw [hX5]; simp [World.setCell]
  have b2 : X5.heap[w.heap.size + 1 + 1]? = some (.cells #[.slice (some ⟨g0, 0, none⟩) n0 n0, .int .i64 zi1, .slice (some ⟨g2, 0, none⟩) n2 n2, .slice (some ⟨g3, 0, none⟩) n3 n3, .slice (some ⟨g4, 0, none⟩) n4 n4, .int .i64 zi5, .int .i64 0] 29 (0, 0)) := by rw [hX5]; exact blk_set k2 5 _
  have b1 : X5.heap[w.heap.size + 1]? = some (.cells #[.slice none 0 0, .int .i64 0, .slice none 0 0, .slice none 0 0, .slice none 0 0, .int .i64 0, .int .i64 0] 29 (0, 0)) := by rw [hX5]; exact blk_other k1 (by simp) _
  have b0 : X5.heap[w.heap.size]? = some (.cells #[.slice a0 n0 c0, .int .i64 zi1, .slice a2 n2 c2, .slice a3 n3 c3, .slice a4 n4 c4, .int .i64 zi5, .int .i64 zi6] 25 (0, 0)) := by rw [hX5]; exact blk_other k0 (by simp; omega) _
  have C5 : Below w.heap.size w X5 := by rw [hX5]; exact C4.setCell (by simp; omega) _
  have S5 : Hid (Off (From w.heap.size (w.heap.size + 3)) X4 X5) := by rw [hX5]; exact Off.set ⟨by simp; omega, by simp⟩ _
  have O0_5 := Hid.mk (RInts.ownOff O0_4.out S5.out (fun b h k => by have := h.1; have := k.2; omega))
  clear O0_4
  have O2_5 := Hid.mk (RInts.ownOff O2_4.out S5.out (fun b h k => by have := h.1; have := k.2; omega))
  clear O2_4
  have O3_5 := Hid.mk (RPrepareds.ownOff O3_4.out S5.out (fun b h k => by have := h.1; have := k.2; omega))
  clear O3_4
  have O4_5 := Hid.mk (RInts.ownOff O4_4.out S5.out (fun b h k => by have := h.1; have := k.2; omega))
  clear O4_4
  clear S5 k2 k1 k0
  go_upto_region 8 with fail
  rw [← hX5]
  clear hX5
  clear q f r
  have k2 := b2
  have k1 := b1
  have k0 := b0
  clear b2 b1 b0
  have q := blk_cell k2 6 (v := .int .i64 0) rfl
  have f := blk_frozen k2 6
  have r := blk_cell k0 6 (v := .int .i64 zi6) rfl
  obtain ⟨X6, hX6⟩ : ∃ u, u = X5.setCell ⟨w.heap.size + 1 + 1, 6, none⟩ (.int .i64 zi6) := ⟨_, rfl⟩
  have y6 : X5.heap.size ≤ X6.heap.size := by rw [hX6]; simp [World.setCell]
  have b2 : X6.heap[w.heap.size + 1 + 1]? = some (.cells #[.slice (some ⟨g0, 0, none⟩) n0 n0, .int .i64 zi1, .slice (some ⟨g2, 0, none⟩) n2 n2, .slice (some ⟨g3, 0, none⟩) n3 n3, .slice (some ⟨g4, 0, none⟩) n4 n4, .int .i64 zi5, .int .i64 zi6] 29 (0, 0)) := by rw [hX6]; exact blk_set k2 6 _
  have b1 : X6.heap[w.heap.size + 1]? = some (.cells #[.slice none 0 0, .int .i64 0, .slice none 0 0, .slice none 0 0, .slice none 0 0, .int .i64 0, .int .i64 0] 29 (0, 0)) := by rw [hX6]; exact blk_other k1 (by simp) _
  have b0 : X6.heap[w.heap.size]? = some (.cells #[.slice a0 n0 c0, .int .i64 zi1, .slice a2 n2 c2, .slice a3 n3 c3, .slice a4 n4 c4, .int .i64 zi5, .int .i64 zi6] 25 (0, 0)) := by rw [hX6]; exact blk_other k0 (by simp; omega) _
  have C6 : Below w.heap.size w X6 := by rw [hX6]; exact C5.setCell (by simp; omega) _
  have S6 : Hid (Off (From w.heap.size (w.heap.size + 3)) X5 X6) := by rw [hX6]; exact Off.set ⟨by simp; omega, by simp⟩ _
  have O0_6 := Hid.mk (RInts.ownOff O0_5.out S6.out (fun b h k => by have := h.1; have := k.2; omega))
  clear O0_5
  have O2_6 := Hid.mk (RInts.ownOff O2_5.out S6.out (fun b h k => by have := h.1; have := k.2; omega))
  clear O2_5
  have O3_6 := Hid.mk (RPrepareds.ownOff O3_5.out S6.out (fun b h k => by have := h.1; have := k.2; omega))
  clear O3_5
  have O4_6 := Hid.mk (RInts.ownOff O4_5.out S6.out (fun b h k => by have := h.1; have := k.2; omega))
  clear O4_5
  clear S6 k2 k1 k0
  go_upto_region 9 with fail
  rw [← hX6]
  clear hX6 q f r
  have u0 := blk_cell b2 0 (v := .slice (some ⟨g0, 0, none⟩) n0 n0) rfl
  have p0 := blk_cell b1 0 (v := .slice none 0 0) rfl
  have f0 := blk_frozen b1 0
  have u1 := blk_cell b2 1 (v := .int .i64 zi1) rfl
  have p1 := blk_cell b1 1 (v := .int .i64 0) rfl
  have f1 := blk_frozen b1 1
  have u2 := blk_cell b2 2 (v := .slice (some ⟨g2, 0, none⟩) n2 n2) rfl
  have p2 := blk_cell b1 2 (v := .slice none 0 0) rfl
  have f2 := blk_frozen b1 2
  have u3 := blk_cell b2 3 (v := .slice (some ⟨g3, 0, none⟩) n3 n3) rfl
  have p3 := blk_cell b1 3 (v := .slice none 0 0) rfl
  have f3 := blk_frozen b1 3
  have u4 := blk_cell b2 4 (v := .slice (some ⟨g4, 0, none⟩) n4 n4) rfl
  have p4 := blk_cell b1 4 (v := .slice none 0 0) rfl
  have f4 := blk_frozen b1 4
  have u5 := blk_cell b2 5 (v := .int .i64 zi5) rfl
  have p5 := blk_cell b1 5 (v := .int .i64 0) rfl
  have f5 := blk_frozen b1 5
  have u6 := blk_cell b2 6 (v := .int .i64 zi6) rfl
  have p6 := blk_cell b1 6 (v := .int .i64 0) rfl
  have f6 := blk_frozen b1 6
  obtain ⟨Y, hY⟩ : ∃ u, u = stores X6 (w.heap.size + 1) 0 [.slice (some ⟨g0, 0, none⟩) n0 n0, .int .i64 zi1, .slice (some ⟨g2, 0, none⟩) n2 n2, .slice (some ⟨g3, 0, none⟩) n3 n3, .slice (some ⟨g4, 0, none⟩) n4 n4, .int .i64 zi5, .int .i64 zi6] := ⟨_, rfl⟩
  have D : Below w.heap.size w Y := by rw [hY]; exact stores_below _ _ _ _ C6 (by omega)
  have S : Off (From w.heap.size (w.heap.size + 3)) X6 Y := by rw [hY]; exact stores_off _ _ _ _ ⟨by omega, by omega⟩
  have zY : Y.heap.size = X6.heap.size := by rw [hY]; exact stores_size _ _ _ _
  have R : Hid (RSink.Own Y (From w.heap.size Y.heap.size) [.slice (some ⟨g0, 0, none⟩) n0 n0, .int .i64 zi1, .slice (some ⟨g2, 0, none⟩) n2 n2, .slice (some ⟨g3, 0, none⟩) n3 n3, .slice (some ⟨g4, 0, none⟩) n4 n4, .int .i64 zi5, .int .i64 zi6] (x0, zi1, x2, x3, x4, zi5, zi6)) :=
    RSink.own_mk (RInts.ownOff O0_6.out S (fun b h k => by have := h.1; have := k.2; omega)) (RInts.ownOff O2_6.out S (fun b h k => by have := h.1; have := k.2; omega)) (RPrepareds.ownOff O3_6.out S (fun b h k => by have := h.1; have := k.2; omega)) (RInts.ownOff O4_6.out S (fun b h k => by have := h.1; have := k.2; omega)) (fun b h => ⟨by have := h.1; omega, by have := h.2; omega⟩) (fun b h => ⟨by have := h.1; omega, by have := h.2; omega⟩) (fun b h => ⟨by have := h.1; omega, by have := h.2; omega⟩) (fun b h => ⟨by have := h.1; omega, by have := h.2; omega⟩) (fun b h k => by have := h.2; have := k.1; omega) (fun b h k => by have := h.2; have := k.1; omega) (fun b h k => by have := h.2; have := k.1; omega) (fun b h k => by have := h.2; have := k.1; omega) (fun b h k => by have := h.2; have := k.1; omega) (fun b h k => by have := h.2; have := k.1; omega)
  have HY := Hid.mk hY
  have HD := Hid.mk D
  clear S D hY zY b1 b2 b0 C6 O0_6 O2_6 O3_6 O4_6
  go_wp2
  refine bodyPost_ret (v := .agg #[.slice (some ⟨g0, 0, none⟩) n0 n0, .int .i64 zi1, .slice (some ⟨g2, 0, none⟩) n2 n2, .slice (some ⟨g3, 0, none⟩) n3 n3, .slice (some ⟨g4, 0, none⟩) n4 n4, .int .i64 zi5, .int .i64 zi6]) (by simp [results, Try.results8, go_sem, p0, p1, p2, p3, p4, p5, p6]) rfl ⟨g0, g2, g3, g4, rfl, ?_, ?_⟩
  · have h := R.out
    rw [HY.out] at h
    exact h
  · have h := HD.out
    rw [HY.out] at h
    exact h


end Go.Proofs.Ytmbjmmnodcebbaa

/- Slices of numbers that are alike are held equal. -/
namespace Go.Proofs.Ytmbjmmnodcebbaa
open Go.RowKit

theorem eqIntS_same (a a' : Option Addr) (n c c' : Nat) (zs : List Int) (w : World) (hz : zs.length = n) (hn : n ≤ 1048576) (ha : At w a zs) (ha' : At w a' zs) :
    Calls Try.prog 17 #[.slice a n c, .slice a' n c'] w fun e w' => e = .returned (.bool true) ∧ Below w.heap.size w w' :=
  (eqIntS_any a a' n n c c' zs zs w hz hz hn hn ha ha').mono fun _ _ ⟨h1, h2⟩ => ⟨by rw [h1, decide_eq_true rfl], h2⟩
end Go.Proofs.Ytmbjmmnodcebbaa

/- Contracts of the laws' eq of Prepared, of equal ones. -/
namespace Go.Proofs.Ytmbjmmnodcebbaa
open Go.RowKit

set_option maxRecDepth 100000 in
set_option maxHeartbeats 8000000 in
theorem eqPrepared_same (a2 : Option Addr) (n2 : Nat) (c2 : Nat) (a2' : Option Addr) (c2' : Nat) (zi0 : Int) (zi1 : Int) (x2 : List Int) (w : World) (hz2 : x2.length = n2) (hs2 : n2 ≤ 1048576) (ha2 : At w a2 x2) (hb2 : At w a2' x2) :
    Calls Try.prog 56 #[.agg #[.int .i64 zi0, .int .i64 zi1, .slice a2 n2 c2], .agg #[.int .i64 zi0, .int .i64 zi1, .slice a2' n2 c2']] w fun e w' => e = .returned (.bool true) ∧ Below w.heap.size w w' := by
  obtain ⟨W, hW⟩ : ∃ W, W = ((w.alloc (.cells #[.int .i64 zi0, .int .i64 zi1, .slice a2 n2 c2] 64)).alloc (.cells #[.int .i64 zi0, .int .i64 zi1, .slice a2' n2 c2'] 64)) := ⟨_, rfl⟩
  have B0 : Below w.heap.size w W := by rw [hW]; exact (((Below.refl _ _).alloc (Nat.le_refl _) _).alloc (by simp) _)
  have HA2 := Hid.mk (And.intro ha2 hb2)
  have HZ2 := Hid.mk hz2
  clear ha2 hb2 hz2
  go_enter Try.func56, Try.ntmps56
  go_wp2_with fail
  rw [← hW]
  clear hW
  refine (eqIntS_same a2 a2' n2 c2 c2' x2 W HZ2.out hs2 (At.below HA2.out.1 B0) (At.below HA2.out.2 B0)).mono ?_
  rintro e w0 ⟨rfl, hb0⟩
  have B1 := B0.trans (hb0.mono B0.size)
  go_wp2
  go_ret
  exact ⟨rfl, B1⟩

set_option maxRecDepth 100000 in
set_option maxHeartbeats 8000000 in
theorem eqPreparedS_same (a a' : Option Addr) (n c c' : Nat) (xs : List TPrepared) (w : World) (hz : xs.length = n) (hn : n ≤ 1048576) (hs : ∀ (i : Nat) (x : TPrepared), xs[i]? = some x → costPrepared x ≤ 1048576) (ha : AtSl RPrepared w a xs) (ha' : AtSl RPrepared w a' xs) :
    Calls Try.prog 32 #[.slice a n c, .slice a' n c'] w fun e w' => e = .returned (.bool true) ∧ Below w.heap.size w w' := by
  by_cases h0 : n = 0
  · subst h0
    go_enter Try.func32, Try.ntmps32
    go_wp2
    refine wp_loop_rounds 1 ?_
    rw [rounds_succ]
    go_wp2
    go_ret
    exact ⟨rfl, Below.refl _ _⟩
  · go_enter Try.func32, Try.ntmps32
    go_wp2
    go_loopw [5] (fun i wr => ∃ (k : Nat), k ≤ n ∧ i = .int .i64 k ∧ Below w.heap.size w wr) (fun i _ => n - (intOf i).toNat)
    case atStart => exact ⟨0, Nat.zero_le _, rfl, Below.refl _ _⟩
    case round =>
      obtain ⟨k, hk, rfl, hbw⟩ := hrel
      by_cases hlt : k < n
      · obtain ⟨b, off, rfl, _, hc⟩ := RPrepared.row (AtSl.below ha hbw) (by omega)
        obtain ⟨b', off', rfl, _, hc'⟩ := RPrepared.row (AtSl.below ha' hbw) (by omega)
        obtain ⟨⟨zi0, zi1, x2⟩, hx⟩ : ∃ x, xs[k]? = some x := ⟨_, List.getElem?_eq_getElem (by omega)⟩
        obtain ⟨a2, n2, c2, e0, e1, e2, ⟨hv2, hu2, hw2, _⟩⟩ := hc k _ hx
        obtain ⟨a2', n2', c2', d0, d1, d2, ⟨hv2', _, hw2', _⟩⟩ := hc' k _ hx
        obtain rfl : n2 = n2' := hv2.symm.trans hv2'
        have hsm := smallPrepared hv2 (hs k _ hx)
        have hki : (k : Int) < (n : Int) := by omega
        have HE : Hid (∀ w' : World, Below wr.heap.size wr w' → Calls Try.prog 56 #[.agg #[.int .i64 zi0, .int .i64 zi1, .slice a2 n2 c2], .agg #[.int .i64 zi0, .int .i64 zi1, .slice a2' n2 c2']] w' fun e w'' => e = .returned (.bool true) ∧ Below w'.heap.size w' w'') :=
          fun w' hw' => eqPrepared_same a2 n2 c2 a2' c2' zi0 zi1 x2 w' hv2 hsm (At.below hw2 hw') (At.below hw2' hw')
        clear hc hc' ha ha' hx hs hsm hv2 hw2 hv2' hw2'
        go_wp2_with fail
        go_region_held3 (fun w' => w'.cell? ⟨b, off + k * 3, none⟩ = some (.int .i64 zi0) ∧ w'.cell? ⟨b, off + k * 3 + 1, none⟩ = some (.int .i64 zi1) ∧ w'.cell? ⟨b, off + k * 3 + 2, none⟩ = some (.slice a2 n2 c2) ∧ w'.cell? ⟨b', off' + k * 3, none⟩ = some (.int .i64 zi0) ∧ w'.cell? ⟨b', off' + k * 3 + 1, none⟩ = some (.int .i64 zi1) ∧ w'.cell? ⟨b', off' + k * 3 + 2, none⟩ = some (.slice a2' n2 c2')) (refine ⟨?_, ?_, ?_, ?_, ?_, ?_⟩ <;> assumption)
          (first | (go_at_call 56; refine (HE.out wr.drew (Below.refl _ _).drew).mono ?_; rintro e w2 ⟨rfl, hb2⟩; have m0 := cell_later hb2 e0; have l0 := cell_later hb2 d0; have m1 := cell_later hb2 e1; have l1 := cell_later hb2 d1; have m2 := cell_later hb2 e2; have l2 := cell_later hb2 d2) | fail)
        go_wp2
        go_roundw
        case rel => exact ⟨k + 1, by omega, by go_num, hbw.drew.trans (hb2.mono hbw.size)⟩
        case measure => simp [intOf]; omega
      · go_wp2
        go_ret
        exact ⟨rfl, hbw⟩

end Go.Proofs.Ytmbjmmnodcebbaa

/- Contracts of the laws' eq of Sink, of equal ones. -/
namespace Go.Proofs.Ytmbjmmnodcebbaa
open Go.RowKit

set_option maxRecDepth 100000 in
set_option maxHeartbeats 8000000 in
theorem eqSink_same (a0 : Option Addr) (n0 : Nat) (c0 : Nat) (a2 : Option Addr) (n2 : Nat) (c2 : Nat) (a3 : Option Addr) (n3 : Nat) (c3 : Nat) (a4 : Option Addr) (n4 : Nat) (c4 : Nat) (a0' : Option Addr) (c0' : Nat) (a2' : Option Addr) (c2' : Nat) (a3' : Option Addr) (c3' : Nat) (a4' : Option Addr) (c4' : Nat) (zi1 : Int) (zi5 : Int) (zi6 : Int) (x0 : List Int) (x2 : List Int) (x3 : List TPrepared) (x4 : List Int) (w : World) (hz0 : x0.length = n0) (hs0 : n0 ≤ 1048576) (hz2 : x2.length = n2) (hs2 : n2 ≤ 1048576) (hz3 : x3.length = n3) (hs3 : n3 ≤ 1048576) (hd3 : ∀ (i : Nat) (x : TPrepared), x3[i]? = some x → costPrepared x ≤ 1048576) (hz4 : x4.length = n4) (hs4 : n4 ≤ 1048576) (ha0 : At w a0 x0) (hb0 : At w a0' x0) (ha2 : At w a2 x2) (hb2 : At w a2' x2) (ha3 : AtSl RPrepared w a3 x3) (hb3 : AtSl RPrepared w a3' x3) (ha4 : At w a4 x4) (hb4 : At w a4' x4) :
    Calls Try.prog 10 #[.agg #[.slice a0 n0 c0, .int .i64 zi1, .slice a2 n2 c2, .slice a3 n3 c3, .slice a4 n4 c4, .int .i64 zi5, .int .i64 zi6], .agg #[.slice a0' n0 c0', .int .i64 zi1, .slice a2' n2 c2', .slice a3' n3 c3', .slice a4' n4 c4', .int .i64 zi5, .int .i64 zi6]] w fun e w' => e = .returned (.bool true) ∧ Below w.heap.size w w' := by
  obtain ⟨W, hW⟩ : ∃ W, W = ((w.alloc (.cells #[.slice a0 n0 c0, .int .i64 zi1, .slice a2 n2 c2, .slice a3 n3 c3, .slice a4 n4 c4, .int .i64 zi5, .int .i64 zi6] 29)).alloc (.cells #[.slice a0' n0 c0', .int .i64 zi1, .slice a2' n2 c2', .slice a3' n3 c3', .slice a4' n4 c4', .int .i64 zi5, .int .i64 zi6] 29)) := ⟨_, rfl⟩
  have B0 : Below w.heap.size w W := by rw [hW]; exact (((Below.refl _ _).alloc (Nat.le_refl _) _).alloc (by simp) _)
  have p1 : W.cell? ⟨w.heap.size, 1, none⟩ = some (.int .i64 zi1) := by rw [hW]; simp
  have r1 : W.cell? ⟨w.heap.size + 1, 1, none⟩ = some (.int .i64 zi1) := by rw [hW]; simp
  have p2 : W.cell? ⟨w.heap.size, 2, none⟩ = some (.slice a2 n2 c2) := by rw [hW]; simp
  have r2 : W.cell? ⟨w.heap.size + 1, 2, none⟩ = some (.slice a2' n2 c2') := by rw [hW]; simp
  have p3 : W.cell? ⟨w.heap.size, 3, none⟩ = some (.slice a3 n3 c3) := by rw [hW]; simp
  have r3 : W.cell? ⟨w.heap.size + 1, 3, none⟩ = some (.slice a3' n3 c3') := by rw [hW]; simp
  have p4 : W.cell? ⟨w.heap.size, 4, none⟩ = some (.slice a4 n4 c4) := by rw [hW]; simp
  have r4 : W.cell? ⟨w.heap.size + 1, 4, none⟩ = some (.slice a4' n4 c4') := by rw [hW]; simp
  have p5 : W.cell? ⟨w.heap.size, 5, none⟩ = some (.int .i64 zi5) := by rw [hW]; simp
  have r5 : W.cell? ⟨w.heap.size + 1, 5, none⟩ = some (.int .i64 zi5) := by rw [hW]; simp
  have p6 : W.cell? ⟨w.heap.size, 6, none⟩ = some (.int .i64 zi6) := by rw [hW]; simp
  have r6 : W.cell? ⟨w.heap.size + 1, 6, none⟩ = some (.int .i64 zi6) := by rw [hW]; simp
  have HA0 := Hid.mk (And.intro ha0 hb0)
  have HZ0 := Hid.mk hz0
  clear ha0 hb0 hz0
  have HA2 := Hid.mk (And.intro ha2 hb2)
  have HZ2 := Hid.mk hz2
  clear ha2 hb2 hz2
  have HA3 := Hid.mk (And.intro ha3 hb3)
  have HZ3 := Hid.mk hz3
  clear ha3 hb3 hz3
  have HD3 := Hid.mk hd3
  clear hd3
  have HA4 := Hid.mk (And.intro ha4 hb4)
  have HZ4 := Hid.mk hz4
  clear ha4 hb4 hz4
  go_enter Try.func10, Try.ntmps10
  go_wp2_with fail
  rw [← hW]
  clear hW
  refine (eqIntS_same a0 a0' n0 c0 c0' x0 W HZ0.out hs0 (At.below HA0.out.1 B0) (At.below HA0.out.2 B0)).mono ?_
  rintro e w0 ⟨rfl, hb0⟩
  have B1 := B0.trans (hb0.mono B0.size)
  have p1 := cell_later hb0 p1
  have r1 := cell_later hb0 r1
  have p2 := cell_later hb0 p2
  have r2 := cell_later hb0 r2
  have p3 := cell_later hb0 p3
  have r3 := cell_later hb0 r3
  have p4 := cell_later hb0 p4
  have r4 := cell_later hb0 r4
  have p5 := cell_later hb0 p5
  have r5 := cell_later hb0 r5
  have p6 := cell_later hb0 p6
  have r6 := cell_later hb0 r6
  go_wp2_with fail
  refine (eqIntS_same a2 a2' n2 c2 c2' x2 w0 HZ2.out hs2 (At.below HA2.out.1 B1) (At.below HA2.out.2 B1)).mono ?_
  rintro e w1 ⟨rfl, hb1⟩
  have B2 := B1.trans (hb1.mono B1.size)
  have p3 := cell_later hb1 p3
  have r3 := cell_later hb1 r3
  have p4 := cell_later hb1 p4
  have r4 := cell_later hb1 r4
  have p5 := cell_later hb1 p5
  have r5 := cell_later hb1 r5
  have p6 := cell_later hb1 p6
  have r6 := cell_later hb1 r6
  go_wp2_with fail
  refine (eqPreparedS_same a3 a3' n3 c3 c3' x3 w1 HZ3.out hs3 HD3.out (AtSl.below HA3.out.1 B2) (AtSl.below HA3.out.2 B2)).mono ?_
  rintro e w2 ⟨rfl, hb2⟩
  have B3 := B2.trans (hb2.mono B2.size)
  have p4 := cell_later hb2 p4
  have r4 := cell_later hb2 r4
  have p5 := cell_later hb2 p5
  have r5 := cell_later hb2 r5
  have p6 := cell_later hb2 p6
  have r6 := cell_later hb2 r6
  go_wp2_with fail
  refine (eqIntS_same a4 a4' n4 c4 c4' x4 w2 HZ4.out hs4 (At.below HA4.out.1 B3) (At.below HA4.out.2 B3)).mono ?_
  rintro e w3 ⟨rfl, hb3⟩
  have B4 := B3.trans (hb3.mono B3.size)
  have p5 := cell_later hb3 p5
  have r5 := cell_later hb3 r5
  have p6 := cell_later hb3 p6
  have r6 := cell_later hb3 r6
  go_wp2
  go_ret
  exact ⟨rfl, B4⟩


end Go.Proofs.Ytmbjmmnodcebbaa

/- Slices of numbers, marked, as things that are owned. -/
namespace Go.Proofs.Ytmbjmmnodcebbaa
open Go.RowKit

theorem markInts_rep (F : Nat → Prop) (a : Option Addr) (n c : Nat) (zs : List Int) (m : Int) (w : World) (hn : n ≤ 1048576) (h0 : 0 ≤ m) (h1 : m ≤ 268435456) (ho : RInts.Own w F [.slice a n c] zs) :
    Calls Try.prog 18 #[.slice a n c, .int .i64 m] w fun e w' => e = .returned (.int .i64 (m + n)) ∧ RInts.Own w' F [.slice a n c] (mkInts m zs) ∧ Off F w w' := by
  obtain ⟨h2, h3, h4, h5⟩ := RInts.own_iff.1 ho
  refine (markIntS_any 0 a n c _ m w hn h0 (by omega) h4).mono fun e w' ⟨e1, e2, e3⟩ => ⟨e1, RInts.own_iff.2 ⟨by unfold mkInts; rw [marks_length, h2], h3, by unfold mkInts; rw [h2]; exact e2, h5⟩, Off.grown e3 h5⟩
end Go.Proofs.Ytmbjmmnodcebbaa
