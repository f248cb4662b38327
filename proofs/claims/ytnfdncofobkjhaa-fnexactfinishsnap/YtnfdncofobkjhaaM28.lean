/- Several texts of one proof, in build order: PrT, WiT, SnpT, IntE, PrE, WiE. -/
import Derived.Test.YtnfdncofobkjhaaM3
import Derived.Test.YtnfdncofobkjhaaM4
import Derived.Deep.CutBlock

/- Contracts of the laws' to of Proc. -/
namespace Go.Proofs.Ytnfdncofobkjhaa
open Go.RowKit

set_option maxRecDepth 100000 in
set_option maxHeartbeats 8000000 in
theorem toProc_rep (zi0 : Int) (zi1 : Int) (bo2 : Bool) (w : World) :
    Calls Try.prog 56 #[.agg #[.int .i64 zi0, .int .i64 zi1, .bool bo2]] w fun e w' => e = .returned (.agg #[.int .i64 zi0, .int .i64 zi1, .bool bo2]) ∧ RProc.Own w' (From w.heap.size w'.heap.size) [.int .i64 zi0, .int .i64 zi1, .bool bo2] (zi0, zi1, bo2) ∧ Below w.heap.size w w' := by
  go_enter Try.func56, Try.ntmps56
  go_wp2
  refine bodyPost_ret (v := .agg #[.int .i64 zi0, .int .i64 zi1, .bool bo2]) (by simp [results, Try.results56, go_sem]) rfl ⟨rfl, RProc.own_mk, ?_⟩
  exact (((Below.refl _ _).alloc (Nat.le_refl _) _).alloc (by simp) _).alloc (by simp; omega) _

theorem Try.infoProc : (Try.prog.info? 74).map (fun i => (i.zero, i.size, i.bytes)) = some (some (.agg #[.int .i64 0, .int .i64 0, .bool false]), 3, 24) := by kernel_rfl

set_option maxRecDepth 100000 in
set_option maxHeartbeats 8000000 in
theorem toProcS_rep (a : Option Addr) (n c : Nat) (xs : List TProc) (w : World) (hz : xs.length = n) (hn : n ≤ 1048576) (ha : AtSl RProc w a xs) :
    Calls Try.prog 33 #[.slice a n c] w fun e w' => ∃ g, e = .returned (.slice (some ⟨g, 0, none⟩) n n) ∧ RProcs.Own w' (From w.heap.size w'.heap.size) [.slice (some ⟨g, 0, none⟩) n n] xs ∧ Below w.heap.size w w' := by
  obtain ⟨i0, hi, hz0, hz1, hz2⟩ := info_parts Try.infoProc
  go_enter Try.func33, Try.ntmps33
  go_wp2_with (at_make; refine wpList_make_full _ rfl _ _ 29 rfl w.heap.size 74 i0 (.agg #[.int .i64 0, .int .i64 0, .bool false]) 3 Try.underlying29 hi hz0 hz1 .i64 .i64 _ _ n rfl rfl rfl rfl (by rw [hz2]; omega) (by unfold maxLen; omega) (Nat.le_refl _) ?_; intro w1 hown hg)
  have hb1 : Below w.heap.size w w1 := (Below.refl _ _).grown hg (Nat.le_refl _) (by simp)
  have hlt1 := (hown.lt w.heap.size rfl).2
  obtain ⟨cs, hcs⟩ : ∃ cs, cs = (madeCells (Value.agg #[.int .i64 0, .int .i64 0, .bool false]).cells (n * 3)).toList := ⟨_, rfl⟩
  rw [← hcs] at hown
  have hst : Laid RProc w1 (From w.heap.size w1.heap.size) 74 (some ⟨w.heap.size, 0, none⟩) n n xs cs (fun _ _ => False) 0 := Laid.start hz (by omega) (owns_mono hown (Nat.zero_le _)) (fun b hb => hown.lt b hb) _
  clear hcs hown hg
  go_loopw [4] (fun i wr => ∃ (k : Nat) (cells : List Value) (G : Nat → Nat → Prop), k ≤ n ∧ i = .int .i64 k ∧ Laid RProc wr (From w.heap.size wr.heap.size) 74 (some ⟨w.heap.size, 0, none⟩) n n xs cells G k ∧ w.heap.size < wr.heap.size ∧ Below w.heap.size w wr) (fun i _ => n - (intOf i).toNat)
  case atStart => exact ⟨0, cs, _, Nat.zero_le _, rfl, hst, hlt1, hb1⟩
  case round =>
    clear hst hb1 hlt1 cs
    obtain ⟨k, cells, G, hk, rfl, ho, hzr, hbw⟩ := hrel
    by_cases hlt : k < n
    · obtain ⟨b, off, rfl, _, hc⟩ := RProc.row (AtSl.below ha hbw) (by omega)
      obtain ⟨⟨zi0, zi1, bo2⟩, hx⟩ : ∃ x, xs[k]? = some x := ⟨_, List.getElem?_eq_getElem (by omega)⟩
      obtain ⟨e0, e1, e2, _⟩ := hc k _ hx
      have hki : (k : Int) < (n : Int) := by omega
      have HO := Hid.mk ho
      have HX := Hid.mk hx
      have HC := Hid.mk (toProc_rep  zi0 zi1 bo2  wr  )
      clear hc ha ho hx
      go_wp2_with fail
      refine HC.out.mono ?_
      rintro e w2 ⟨rfl, ho2, hb2⟩
      have hput := HO.out.put hlt (fun b hb => hb.2) hb2 HX.out ho2 (fun b hb => hb.1)
      have z2 := hb2.size
      have hput2 := hput.mono (F' := From w.heap.size w2.heap.size) (fun b hb => by rcases hb with hb | hb; exact ⟨hb.1, by have := hb.2; omega⟩; exact ⟨by have := hb.1; omega, hb.2⟩)
      have HP : Hid (Laid RProc (((w2.setCell ⟨w.heap.size, k * 3, none⟩ (.int .i64 zi0)).setCell ⟨w.heap.size, k * 3 + 1, none⟩ (.int .i64 zi1)).setCell ⟨w.heap.size, k * 3 + 2, none⟩ (.bool bo2)) (From w.heap.size w2.heap.size) 74 (some ⟨w.heap.size, 0, none⟩) n n xs _ _ (k + 1)) := hput2
      have hout := (HO.out.below hb2).outer
      have hln := hout.1
      have hln : cells.length = n * 3 := hln
      obtain ⟨v0, hv0⟩ : ∃ u, cells[k * 3]? = some u := ⟨_, List.getElem?_eq_getElem (by omega)⟩
      have q0 : w2.cell? ⟨w.heap.size, k * 3, none⟩ = some v0 := (hout.cellAt _ (show k * 3 < n * 3 by omega)).trans hv0
      have f0 : w2.frozen? ⟨w.heap.size, k * 3, none⟩ = false := hout.frozenAt _
      clear hv0
      obtain ⟨v1, hv1⟩ : ∃ u, cells[k * 3 + 1]? = some u := ⟨_, List.getElem?_eq_getElem (by omega)⟩
      have q1 : w2.cell? ⟨w.heap.size, k * 3 + 1, none⟩ = some v1 := (hout.cellAt _ (show k * 3 + 1 < n * 3 by omega)).trans hv1
      have f1 : w2.frozen? ⟨w.heap.size, k * 3 + 1, none⟩ = false := hout.frozenAt _
      clear hv1
      obtain ⟨v2, hv2⟩ : ∃ u, cells[k * 3 + 2]? = some u := ⟨_, List.getElem?_eq_getElem (by omega)⟩
      have q2 : w2.cell? ⟨w.heap.size, k * 3 + 2, none⟩ = some v2 := (hout.cellAt _ (show k * 3 + 2 < n * 3 by omega)).trans hv2
      have f2 : w2.frozen? ⟨w.heap.size, k * 3 + 2, none⟩ = false := hout.frozenAt _
      clear hv2
      have HB : Hid (Below w.heap.size w (((w2.setCell ⟨w.heap.size, k * 3, none⟩ (.int .i64 zi0)).setCell ⟨w.heap.size, k * 3 + 1, none⟩ (.int .i64 zi1)).setCell ⟨w.heap.size, k * 3 + 2, none⟩ (.bool bo2))) := ((((hbw.trans (hb2.mono hbw.size)).setCell (Nat.le_refl _) _).setCell (Nat.le_refl _) _).setCell (Nat.le_refl _) _)
      clear hput hput2 hout hln hb2 hbw ho2 HC e0 e1 e2
      go_wp2
      go_roundw
      case rel => exact ⟨k + 1, _, _, by omega, by go_num, by simpa only [World.setCell, Array.size_modify] using HP.out, by simp [World.setCell]; omega, HB.out⟩
      case measure => simp [intOf]; omega
    · obtain rfl : k = n := by omega
      go_wp2
      go_ret
      exact ⟨_, rfl, ⟨_, _, _, _, _, rfl, ho⟩, hbw⟩

end Go.Proofs.Ytnfdncofobkjhaa

/- Contracts of the laws' to of Wire. -/
namespace Go.Proofs.Ytnfdncofobkjhaa
open Go.RowKit

set_option maxRecDepth 100000 in
set_option maxHeartbeats 8000000 in
theorem toWire_rep (a0 : Option Addr) (n0 : Nat) (c0 : Nat) (a1 : Option Addr) (n1 : Nat) (c1 : Nat) (bo2 : Bool) (x0 : List Int) (x1 : List Int) (w : World) (hz0 : x0.length = n0) (hs0 : n0 ≤ 1048576) (hz1 : x1.length = n1) (hs1 : n1 ≤ 1048576) (ha0 : At w a0 x0) (ha1 : At w a1 x1) :
    Calls Try.prog 57 #[.agg #[.slice a0 n0 c0, .slice a1 n1 c1, .bool bo2]] w fun e w' => ∃ g0 g1, e = .returned (.agg #[.slice (some ⟨g0, 0, none⟩) n0 n0, .slice (some ⟨g1, 0, none⟩) n1 n1, .bool bo2]) ∧ RWire.Own w' (From w.heap.size w'.heap.size) [.slice (some ⟨g0, 0, none⟩) n0 n0, .slice (some ⟨g1, 0, none⟩) n1 n1, .bool bo2] (x0, x1, bo2) ∧ Below w.heap.size w w' := by
  obtain ⟨W, hW⟩ : ∃ W, W = (((w.alloc (.cells #[.slice a0 n0 c0, .slice a1 n1 c1, .bool bo2] 82)).alloc (.cells #[.slice none 0 0, .slice none 0 0, .bool false] 76)).alloc (.cells #[.slice none 0 0, .slice none 0 0, .bool false] 76)) := ⟨_, rfl⟩
  have B0 : Below w.heap.size w W := by rw [hW]; exact ((((Below.refl _ _).alloc (Nat.le_refl _) _).alloc (by simp) _).alloc (by simp; omega) _)
  have zW : w.heap.size + 2 < W.heap.size := by rw [hW]; simp
  have b2 : W.heap[w.heap.size + 1 + 1]? = some (.cells #[.slice none 0 0, .slice none 0 0, .bool false] 76 (0, 0)) := by
    rw [hW]
    have q := heap_alloc_new ((w.alloc (.cells #[.slice a0 n0 c0, .slice a1 n1 c1, .bool bo2] 82)).alloc (.cells #[.slice none 0 0, .slice none 0 0, .bool false] 76)) (.cells #[.slice none 0 0, .slice none 0 0, .bool false] 76)
    simpa only [World.size_alloc] using q
  have b1 : W.heap[w.heap.size + 1]? = some (.cells #[.slice none 0 0, .slice none 0 0, .bool false] 76 (0, 0)) := by
    rw [hW]
    refine blk_alloc ?_ _
    have q := heap_alloc_new (w.alloc (.cells #[.slice a0 n0 c0, .slice a1 n1 c1, .bool bo2] 82)) (.cells #[.slice none 0 0, .slice none 0 0, .bool false] 76)
    simpa only [World.size_alloc] using q
  have b0 : W.heap[w.heap.size]? = some (.cells #[.slice a0 n0 c0, .slice a1 n1 c1, .bool bo2] 82 (0, 0)) := by
    rw [hW]
    exact blk_alloc (blk_alloc (heap_alloc_new w _) _) _
  have HA0 := Hid.mk ha0
  have HZ0 := Hid.mk hz0
  clear ha0 hz0
  have HA1 := Hid.mk ha1
  have HZ1 := Hid.mk hz1
  clear ha1 hz1
  go_enter Try.func57, Try.ntmps57
  go_wp2_with fail
  rw [← hW]
  clear hW
  refine (toInts_rep a0 n0 c0 x0 W HZ0.out hs0 (At.below HA0.out B0)).mono ?_
  rintro e w0 ⟨g0, rfl, o0, hb0⟩
  have k2 := blk_below b2 hb0
  have k1 := blk_below b1 hb0
  have k0 := blk_below b0 hb0
  clear b2 b1 b0
  have z0 := hb0.size
  have E0 : Below w.heap.size w w0 := B0.trans (hb0.mono (by omega))
  have q := blk_cell k2 0 (v := .slice none 0 0) rfl
  have f := blk_frozen k2 0
  have r := blk_cell k0 1 (v := .slice a1 n1 c1) rfl
  obtain ⟨X0, hX0⟩ : ∃ u, u = w0.setCell ⟨w.heap.size + 1 + 1, 0, none⟩ (.slice (some ⟨g0, 0, none⟩) n0 n0) := ⟨_, rfl⟩
  have y0 : w0.heap.size ≤ X0.heap.size := by rw [hX0]; simp [World.setCell]
  have b2 : X0.heap[w.heap.size + 1 + 1]? = some (.cells #[.slice (some ⟨g0, 0, none⟩) n0 n0, .slice none 0 0, .bool false] 76 (0, 0)) := by rw [hX0]; exact blk_set k2 0 _
  have b1 : X0.heap[w.heap.size + 1]? = some (.cells #[.slice none 0 0, .slice none 0 0, .bool false] 76 (0, 0)) := by rw [hX0]; exact blk_other k1 (by simp) _
  have b0 : X0.heap[w.heap.size]? = some (.cells #[.slice a0 n0 c0, .slice a1 n1 c1, .bool bo2] 82 (0, 0)) := by rw [hX0]; exact blk_other k0 (by simp; omega) _
  have C0 : Below w.heap.size w X0 := by rw [hX0]; exact E0.setCell (by simp; omega) _
  have S0 : Hid (Off (From w.heap.size (w.heap.size + 3)) w0 X0) := by rw [hX0]; exact Off.set ⟨by simp; omega, by simp⟩ _
  have O0_0 := Hid.mk (RInts.ownOff o0 S0.out (fun b h k => by have := h.1; have := k.2; omega))
  clear o0 hb0
  clear S0 k2 k1 k0
  go_wp2_with fail
  rw [← hX0]
  clear hX0
  clear q f r
  refine (toInts_rep a1 n1 c1 x1 X0 HZ1.out hs1 (At.below HA1.out C0)).mono ?_
  rintro e w1 ⟨g1, rfl, o1, hb1⟩
  have k2 := blk_below b2 hb1
  have k1 := blk_below b1 hb1
  have k0 := blk_below b0 hb1
  clear b2 b1 b0
  have z1 := hb1.size
  have E1 : Below w.heap.size w w1 := C0.trans (hb1.mono (by omega))
  have q := blk_cell k2 1 (v := .slice none 0 0) rfl
  have f := blk_frozen k2 1
  have r : True := trivial
  obtain ⟨X1, hX1⟩ : ∃ u, u = w1.setCell ⟨w.heap.size + 1 + 1, 1, none⟩ (.slice (some ⟨g1, 0, none⟩) n1 n1) := ⟨_, rfl⟩
  have y1 : w1.heap.size ≤ X1.heap.size := by rw [hX1]; simp [World.setCell]
  have b2 : X1.heap[w.heap.size + 1 + 1]? = some (.cells #[.slice (some ⟨g0, 0, none⟩) n0 n0, .slice (some ⟨g1, 0, none⟩) n1 n1, .bool false] 76 (0, 0)) := by rw [hX1]; exact blk_set k2 1 _
  have b1 : X1.heap[w.heap.size + 1]? = some (.cells #[.slice none 0 0, .slice none 0 0, .bool false] 76 (0, 0)) := by rw [hX1]; exact blk_other k1 (by simp) _
  have b0 : X1.heap[w.heap.size]? = some (.cells #[.slice a0 n0 c0, .slice a1 n1 c1, .bool bo2] 82 (0, 0)) := by rw [hX1]; exact blk_other k0 (by simp; omega) _
  have C1 : Below w.heap.size w X1 := by rw [hX1]; exact E1.setCell (by simp; omega) _
  have S1 : Hid (Off (From w.heap.size (w.heap.size + 3)) w1 X1) := by rw [hX1]; exact Off.set ⟨by simp; omega, by simp⟩ _
  have O0_1 := Hid.mk (RInts.ownOff (RInts.ownBelow O0_0.out hb1) S1.out (fun b h k => by have := h.1; have := k.2; omega))
  clear O0_0
  have O1_1 := Hid.mk (RInts.ownOff o1 S1.out (fun b h k => by have := h.1; have := k.2; omega))
  clear o1 hb1
  clear S1 k2 k1 k0
  go_upto_region 4 with fail
  rw [← hX1]
  clear hX1
  clear q f r
  have k2 := b2
  have k1 := b1
  have k0 := b0
  clear b2 b1 b0
  have q := blk_cell k2 2 (v := .bool false) rfl
  have f := blk_frozen k2 2
  have r := blk_cell k0 2 (v := .bool bo2) rfl
  obtain ⟨X2, hX2⟩ : ∃ u, u = X1.setCell ⟨w.heap.size + 1 + 1, 2, none⟩ (.bool bo2) := ⟨_, rfl⟩
  have y2 : X1.heap.size ≤ X2.heap.size := by rw [hX2]; simp [World.setCell]
  have b2 : X2.heap[w.heap.size + 1 + 1]? = some (.cells #[.slice (some ⟨g0, 0, none⟩) n0 n0, .slice (some ⟨g1, 0, none⟩) n1 n1, .bool bo2] 76 (0, 0)) := by rw [hX2]; exact blk_set k2 2 _
  have b1 : X2.heap[w.heap.size + 1]? = some (.cells #[.slice none 0 0, .slice none 0 0, .bool false] 76 (0, 0)) := by rw [hX2]; exact blk_other k1 (by simp) _
  have b0 : X2.heap[w.heap.size]? = some (.cells #[.slice a0 n0 c0, .slice a1 n1 c1, .bool bo2] 82 (0, 0)) := by rw [hX2]; exact blk_other k0 (by simp; omega) _
  have C2 : Below w.heap.size w X2 := by rw [hX2]; exact C1.setCell (by simp; omega) _
  have S2 : Hid (Off (From w.heap.size (w.heap.size + 3)) X1 X2) := by rw [hX2]; exact Off.set ⟨by simp; omega, by simp⟩ _
  have O0_2 := Hid.mk (RInts.ownOff O0_1.out S2.out (fun b h k => by have := h.1; have := k.2; omega))
  clear O0_1
  have O1_2 := Hid.mk (RInts.ownOff O1_1.out S2.out (fun b h k => by have := h.1; have := k.2; omega))
  clear O1_1
  clear S2 k2 k1 k0
  go_upto_region 5 with fail
  rw [← hX2]
  clear hX2 q f r
  have u0 := blk_cell b2 0 (v := .slice (some ⟨g0, 0, none⟩) n0 n0) rfl
  have p0 := blk_cell b1 0 (v := .slice none 0 0) rfl
  have f0 := blk_frozen b1 0
  have u1 := blk_cell b2 1 (v := .slice (some ⟨g1, 0, none⟩) n1 n1) rfl
  have p1 := blk_cell b1 1 (v := .slice none 0 0) rfl
  have f1 := blk_frozen b1 1
  have u2 := blk_cell b2 2 (v := .bool bo2) rfl
  have p2 := blk_cell b1 2 (v := .bool false) rfl
  have f2 := blk_frozen b1 2
  obtain ⟨Y, hY⟩ : ∃ u, u = stores X2 (w.heap.size + 1) 0 [.slice (some ⟨g0, 0, none⟩) n0 n0, .slice (some ⟨g1, 0, none⟩) n1 n1, .bool bo2] := ⟨_, rfl⟩
  have D : Below w.heap.size w Y := by rw [hY]; exact stores_below _ _ _ _ C2 (by omega)
  have S : Off (From w.heap.size (w.heap.size + 3)) X2 Y := by rw [hY]; exact stores_off _ _ _ _ ⟨by omega, by omega⟩
  have zY : Y.heap.size = X2.heap.size := by rw [hY]; exact stores_size _ _ _ _
  have R : Hid (RWire.Own Y (From w.heap.size Y.heap.size) [.slice (some ⟨g0, 0, none⟩) n0 n0, .slice (some ⟨g1, 0, none⟩) n1 n1, .bool bo2] (x0, x1, bo2)) :=
    RWire.own_mk (RInts.ownOff O0_2.out S (fun b h k => by have := h.1; have := k.2; omega)) (RInts.ownOff O1_2.out S (fun b h k => by have := h.1; have := k.2; omega)) (fun b h => ⟨by have := h.1; omega, by have := h.2; omega⟩) (fun b h => ⟨by have := h.1; omega, by have := h.2; omega⟩) (fun b h k => by have := h.2; have := k.1; omega)
  have HY := Hid.mk hY
  have HD := Hid.mk D
  clear S D hY zY b1 b2 b0 C2 O0_2 O1_2
  go_wp2
  refine bodyPost_ret (v := .agg #[.slice (some ⟨g0, 0, none⟩) n0 n0, .slice (some ⟨g1, 0, none⟩) n1 n1, .bool bo2]) (by simp [results, Try.results57, go_sem, p0, p1, p2]) rfl ⟨g0, g1, rfl, ?_, ?_⟩
  · have h := R.out
    rw [HY.out] at h
    exact h
  · have h := HD.out
    rw [HY.out] at h
    exact h

theorem Try.infoWire : (Try.prog.info? 76).map (fun i => (i.zero, i.size, i.bytes)) = some (some (.agg #[.slice none 0 0, .slice none 0 0, .bool false]), 3, 56) := by kernel_rfl

set_option maxRecDepth 100000 in
set_option maxHeartbeats 8000000 in
theorem toWireS_rep (a : Option Addr) (n c : Nat) (xs : List TWire) (w : World) (hz : xs.length = n) (hn : n ≤ 1048576) (hs : ∀ (i : Nat) (x : TWire), xs[i]? = some x → costWire x ≤ 1048576) (ha : AtSl RWire w a xs) :
    Calls Try.prog 34 #[.slice a n c] w fun e w' => ∃ g, e = .returned (.slice (some ⟨g, 0, none⟩) n n) ∧ RWires.Own w' (From w.heap.size w'.heap.size) [.slice (some ⟨g, 0, none⟩) n n] xs ∧ Below w.heap.size w w' := by
  obtain ⟨i0, hi, hz0, hz1, hz2⟩ := info_parts Try.infoWire
  go_enter Try.func34, Try.ntmps34
  go_wp2_with (at_make; refine wpList_make_full _ rfl _ _ 30 rfl w.heap.size 76 i0 (.agg #[.slice none 0 0, .slice none 0 0, .bool false]) 3 Try.underlying30 hi hz0 hz1 .i64 .i64 _ _ n rfl rfl rfl rfl (by rw [hz2]; omega) (by unfold maxLen; omega) (Nat.le_refl _) ?_; intro w1 hown hg)
  have hb1 : Below w.heap.size w w1 := (Below.refl _ _).grown hg (Nat.le_refl _) (by simp)
  have hlt1 := (hown.lt w.heap.size rfl).2
  obtain ⟨cs, hcs⟩ : ∃ cs, cs = (madeCells (Value.agg #[.slice none 0 0, .slice none 0 0, .bool false]).cells (n * 3)).toList := ⟨_, rfl⟩
  rw [← hcs] at hown
  have hst : Laid RWire w1 (From w.heap.size w1.heap.size) 76 (some ⟨w.heap.size, 0, none⟩) n n xs cs (fun _ _ => False) 0 := Laid.start hz (by omega) (owns_mono hown (Nat.zero_le _)) (fun b hb => hown.lt b hb) _
  clear hcs hown hg
  go_loopw [4] (fun i wr => ∃ (k : Nat) (cells : List Value) (G : Nat → Nat → Prop), k ≤ n ∧ i = .int .i64 k ∧ Laid RWire wr (From w.heap.size wr.heap.size) 76 (some ⟨w.heap.size, 0, none⟩) n n xs cells G k ∧ w.heap.size < wr.heap.size ∧ Below w.heap.size w wr) (fun i _ => n - (intOf i).toNat)
  case atStart => exact ⟨0, cs, _, Nat.zero_le _, rfl, hst, hlt1, hb1⟩
  case round =>
    clear hst hb1 hlt1 cs
    obtain ⟨k, cells, G, hk, rfl, ho, hzr, hbw⟩ := hrel
    by_cases hlt : k < n
    · obtain ⟨b, off, rfl, _, hc⟩ := RWire.row (AtSl.below ha hbw) (by omega)
      obtain ⟨⟨x0, x1, bo2⟩, hx⟩ : ∃ x, xs[k]? = some x := ⟨_, List.getElem?_eq_getElem (by omega)⟩
      obtain ⟨a0, n0, c0, a1, n1, c1, e0, e1, e2, ⟨hv0, hu0, hw0, _⟩, ⟨hv1, hu1, hw1, _⟩⟩ := hc k _ hx
      have hsm := smallWire hv0 hv1 (hs k _ hx)
      have hki : (k : Int) < (n : Int) := by omega
      have HO := Hid.mk ho
      have HX := Hid.mk hx
      have HC := Hid.mk (toWire_rep a0 n0 c0 a1 n1 c1 bo2 x0 x1 wr hv0 hsm.1 hv1 hsm.2 hw0 hw1)
      clear hc ha ho hx hs hsm hv0 hw0 hv1 hw1
      go_wp2_with fail
      refine HC.out.mono ?_
      rintro e w2 ⟨g0, g1, rfl, ho2, hb2⟩
      have hput := HO.out.put hlt (fun b hb => hb.2) hb2 HX.out ho2 (fun b hb => hb.1)
      have z2 := hb2.size
      have hput2 := hput.mono (F' := From w.heap.size w2.heap.size) (fun b hb => by rcases hb with hb | hb; exact ⟨hb.1, by have := hb.2; omega⟩; exact ⟨by have := hb.1; omega, hb.2⟩)
      have HP : Hid (Laid RWire (((w2.setCell ⟨w.heap.size, k * 3, none⟩ (.slice (some ⟨g0, 0, none⟩) n0 n0)).setCell ⟨w.heap.size, k * 3 + 1, none⟩ (.slice (some ⟨g1, 0, none⟩) n1 n1)).setCell ⟨w.heap.size, k * 3 + 2, none⟩ (.bool bo2)) (From w.heap.size w2.heap.size) 76 (some ⟨w.heap.size, 0, none⟩) n n xs _ _ (k + 1)) := hput2
      have hout := (HO.out.below hb2).outer
      have hln := hout.1
      have hln : cells.length = n * 3 := hln
      obtain ⟨v0, hv0⟩ : ∃ u, cells[k * 3]? = some u := ⟨_, List.getElem?_eq_getElem (by omega)⟩
      have q0 : w2.cell? ⟨w.heap.size, k * 3, none⟩ = some v0 := (hout.cellAt _ (show k * 3 < n * 3 by omega)).trans hv0
      have f0 : w2.frozen? ⟨w.heap.size, k * 3, none⟩ = false := hout.frozenAt _
      clear hv0
      obtain ⟨v1, hv1⟩ : ∃ u, cells[k * 3 + 1]? = some u := ⟨_, List.getElem?_eq_getElem (by omega)⟩
      have q1 : w2.cell? ⟨w.heap.size, k * 3 + 1, none⟩ = some v1 := (hout.cellAt _ (show k * 3 + 1 < n * 3 by omega)).trans hv1
      have f1 : w2.frozen? ⟨w.heap.size, k * 3 + 1, none⟩ = false := hout.frozenAt _
      clear hv1
      obtain ⟨v2, hv2⟩ : ∃ u, cells[k * 3 + 2]? = some u := ⟨_, List.getElem?_eq_getElem (by omega)⟩
      have q2 : w2.cell? ⟨w.heap.size, k * 3 + 2, none⟩ = some v2 := (hout.cellAt _ (show k * 3 + 2 < n * 3 by omega)).trans hv2
      have f2 : w2.frozen? ⟨w.heap.size, k * 3 + 2, none⟩ = false := hout.frozenAt _
      clear hv2
      have HB : Hid (Below w.heap.size w (((w2.setCell ⟨w.heap.size, k * 3, none⟩ (.slice (some ⟨g0, 0, none⟩) n0 n0)).setCell ⟨w.heap.size, k * 3 + 1, none⟩ (.slice (some ⟨g1, 0, none⟩) n1 n1)).setCell ⟨w.heap.size, k * 3 + 2, none⟩ (.bool bo2))) := ((((hbw.trans (hb2.mono hbw.size)).setCell (Nat.le_refl _) _).setCell (Nat.le_refl _) _).setCell (Nat.le_refl _) _)
      clear hput hput2 hout hln hb2 hbw ho2 HC e0 e1 e2
      go_wp2
      go_roundw
      case rel => exact ⟨k + 1, _, _, by omega, by go_num, by simpa only [World.setCell, Array.size_modify] using HP.out, by simp [World.setCell]; omega, HB.out⟩
      case measure => simp [intOf]; omega
    · obtain rfl : k = n := by omega
      go_wp2
      go_ret
      exact ⟨_, rfl, ⟨_, _, _, _, _, rfl, ho⟩, hbw⟩

end Go.Proofs.Ytnfdncofobkjhaa

/- Contracts of the laws' to of Snap. -/
namespace Go.Proofs.Ytnfdncofobkjhaa
open Go.RowKit

set_option maxRecDepth 100000 in
set_option maxHeartbeats 8000000 in
theorem toSnap_rep (a0 : Option Addr) (n0 : Nat) (c0 : Nat) (a1 : Option Addr) (n1 : Nat) (c1 : Nat)  (x0 : List TProc) (x1 : List TWire) (w : World) (hz0 : x0.length = n0) (hs0 : n0 ≤ 1048576) (hz1 : x1.length = n1) (hs1 : n1 ≤ 1048576) (hd1 : ∀ (i : Nat) (x : TWire), x1[i]? = some x → costWire x ≤ 1048576) (ha0 : AtSl RProc w a0 x0) (ha1 : AtSl RWire w a1 x1) :
    Calls Try.prog 8 #[.agg #[.slice a0 n0 c0, .slice a1 n1 c1]] w fun e w' => ∃ g0 g1, e = .returned (.agg #[.slice (some ⟨g0, 0, none⟩) n0 n0, .slice (some ⟨g1, 0, none⟩) n1 n1]) ∧ RSnap.Own w' (From w.heap.size w'.heap.size) [.slice (some ⟨g0, 0, none⟩) n0 n0, .slice (some ⟨g1, 0, none⟩) n1 n1] (x0, x1) ∧ Below w.heap.size w w' := by
  obtain ⟨W, hW⟩ : ∃ W, W = (((w.alloc (.cells #[.slice a0 n0 c0, .slice a1 n1 c1] 25)).alloc (.cells #[.slice none 0 0, .slice none 0 0] 32)).alloc (.cells #[.slice none 0 0, .slice none 0 0] 32)) := ⟨_, rfl⟩
  have B0 : Below w.heap.size w W := by rw [hW]; exact ((((Below.refl _ _).alloc (Nat.le_refl _) _).alloc (by simp) _).alloc (by simp; omega) _)
  have zW : w.heap.size + 2 < W.heap.size := by rw [hW]; simp
  have b2 : W.heap[w.heap.size + 1 + 1]? = some (.cells #[.slice none 0 0, .slice none 0 0] 32 (0, 0)) := by
    rw [hW]
    have q := heap_alloc_new ((w.alloc (.cells #[.slice a0 n0 c0, .slice a1 n1 c1] 25)).alloc (.cells #[.slice none 0 0, .slice none 0 0] 32)) (.cells #[.slice none 0 0, .slice none 0 0] 32)
    simpa only [World.size_alloc] using q
  have b1 : W.heap[w.heap.size + 1]? = some (.cells #[.slice none 0 0, .slice none 0 0] 32 (0, 0)) := by
    rw [hW]
    refine blk_alloc ?_ _
    have q := heap_alloc_new (w.alloc (.cells #[.slice a0 n0 c0, .slice a1 n1 c1] 25)) (.cells #[.slice none 0 0, .slice none 0 0] 32)
    simpa only [World.size_alloc] using q
  have b0 : W.heap[w.heap.size]? = some (.cells #[.slice a0 n0 c0, .slice a1 n1 c1] 25 (0, 0)) := by
    rw [hW]
    exact blk_alloc (blk_alloc (heap_alloc_new w _) _) _
  have HA0 := Hid.mk ha0
  have HZ0 := Hid.mk hz0
  clear ha0 hz0
  have HA1 := Hid.mk ha1
  have HZ1 := Hid.mk hz1
  clear ha1 hz1
  have HD1 := Hid.mk hd1
  clear hd1
  go_enter Try.func8, Try.ntmps8
  go_wp2_with fail
  rw [← hW]
  clear hW
  refine (toProcS_rep a0 n0 c0 x0 W HZ0.out hs0 (AtSl.below HA0.out B0)).mono ?_
  rintro e w0 ⟨g0, rfl, o0, hb0⟩
  have k2 := blk_below b2 hb0
  have k1 := blk_below b1 hb0
  have k0 := blk_below b0 hb0
  clear b2 b1 b0
  have z0 := hb0.size
  have E0 : Below w.heap.size w w0 := B0.trans (hb0.mono (by omega))
  have q := blk_cell k2 0 (v := .slice none 0 0) rfl
  have f := blk_frozen k2 0
  have r := blk_cell k0 1 (v := .slice a1 n1 c1) rfl
  obtain ⟨X0, hX0⟩ : ∃ u, u = w0.setCell ⟨w.heap.size + 1 + 1, 0, none⟩ (.slice (some ⟨g0, 0, none⟩) n0 n0) := ⟨_, rfl⟩
  have y0 : w0.heap.size ≤ X0.heap.size := by rw [hX0]; simp [World.setCell]
  have b2 : X0.heap[w.heap.size + 1 + 1]? = some (.cells #[.slice (some ⟨g0, 0, none⟩) n0 n0, .slice none 0 0] 32 (0, 0)) := by rw [hX0]; exact blk_set k2 0 _
  have b1 : X0.heap[w.heap.size + 1]? = some (.cells #[.slice none 0 0, .slice none 0 0] 32 (0, 0)) := by rw [hX0]; exact blk_other k1 (by simp) _
  have b0 : X0.heap[w.heap.size]? = some (.cells #[.slice a0 n0 c0, .slice a1 n1 c1] 25 (0, 0)) := by rw [hX0]; exact blk_other k0 (by simp; omega) _
  have C0 : Below w.heap.size w X0 := by rw [hX0]; exact E0.setCell (by simp; omega) _
  have S0 : Hid (Off (From w.heap.size (w.heap.size + 3)) w0 X0) := by rw [hX0]; exact Off.set ⟨by simp; omega, by simp⟩ _
  have O0_0 := Hid.mk (RProcs.ownOff o0 S0.out (fun b h k => by have := h.1; have := k.2; omega))
  clear o0 hb0
  clear S0 k2 k1 k0
  go_wp2_with fail
  rw [← hX0]
  clear hX0
  clear q f r
  refine (toWireS_rep a1 n1 c1 x1 X0 HZ1.out hs1 HD1.out (AtSl.below HA1.out C0)).mono ?_
  rintro e w1 ⟨g1, rfl, o1, hb1⟩
  have k2 := blk_below b2 hb1
  have k1 := blk_below b1 hb1
  have k0 := blk_below b0 hb1
  clear b2 b1 b0
  have z1 := hb1.size
  have E1 : Below w.heap.size w w1 := C0.trans (hb1.mono (by omega))
  have q := blk_cell k2 1 (v := .slice none 0 0) rfl
  have f := blk_frozen k2 1
  have r : True := trivial
  obtain ⟨X1, hX1⟩ : ∃ u, u = w1.setCell ⟨w.heap.size + 1 + 1, 1, none⟩ (.slice (some ⟨g1, 0, none⟩) n1 n1) := ⟨_, rfl⟩
  have y1 : w1.heap.size ≤ X1.heap.size := by rw [hX1]; simp [World.setCell]
  have b2 : X1.heap[w.heap.size + 1 + 1]? = some (.cells #[.slice (some ⟨g0, 0, none⟩) n0 n0, .slice (some ⟨g1, 0, none⟩) n1 n1] 32 (0, 0)) := by rw [hX1]; exact blk_set k2 1 _
  have b1 : X1.heap[w.heap.size + 1]? = some (.cells #[.slice none 0 0, .slice none 0 0] 32 (0, 0)) := by rw [hX1]; exact blk_other k1 (by simp) _
  have b0 : X1.heap[w.heap.size]? = some (.cells #[.slice a0 n0 c0, .slice a1 n1 c1] 25 (0, 0)) := by rw [hX1]; exact blk_other k0 (by simp; omega) _
  have C1 : Below w.heap.size w X1 := by rw [hX1]; exact E1.setCell (by simp; omega) _
  have S1 : Hid (Off (From w.heap.size (w.heap.size + 3)) w1 X1) := by rw [hX1]; exact Off.set ⟨by simp; omega, by simp⟩ _
  have O0_1 := Hid.mk (RProcs.ownOff (RProcs.ownBelow O0_0.out hb1) S1.out (fun b h k => by have := h.1; have := k.2; omega))
  clear O0_0
  have O1_1 := Hid.mk (RWires.ownOff o1 S1.out (fun b h k => by have := h.1; have := k.2; omega))
  clear o1 hb1
  clear S1 k2 k1 k0
  go_upto_region 4 with fail
  rw [← hX1]
  clear hX1 q f r
  have u0 := blk_cell b2 0 (v := .slice (some ⟨g0, 0, none⟩) n0 n0) rfl
  have p0 := blk_cell b1 0 (v := .slice none 0 0) rfl
  have f0 := blk_frozen b1 0
  have u1 := blk_cell b2 1 (v := .slice (some ⟨g1, 0, none⟩) n1 n1) rfl
  have p1 := blk_cell b1 1 (v := .slice none 0 0) rfl
  have f1 := blk_frozen b1 1
  obtain ⟨Y, hY⟩ : ∃ u, u = stores X1 (w.heap.size + 1) 0 [.slice (some ⟨g0, 0, none⟩) n0 n0, .slice (some ⟨g1, 0, none⟩) n1 n1] := ⟨_, rfl⟩
  have D : Below w.heap.size w Y := by rw [hY]; exact stores_below _ _ _ _ C1 (by omega)
  have S : Off (From w.heap.size (w.heap.size + 3)) X1 Y := by rw [hY]; exact stores_off _ _ _ _ ⟨by omega, by omega⟩
  have zY : Y.heap.size = X1.heap.size := by rw [hY]; exact stores_size _ _ _ _
  have R : Hid (RSnap.Own Y (From w.heap.size Y.heap.size) [.slice (some ⟨g0, 0, none⟩) n0 n0, .slice (some ⟨g1, 0, none⟩) n1 n1] (x0, x1)) :=
    RSnap.own_mk (RProcs.ownOff O0_1.out S (fun b h k => by have := h.1; have := k.2; omega)) (RWires.ownOff O1_1.out S (fun b h k => by have := h.1; have := k.2; omega)) (fun b h => ⟨by have := h.1; omega, by have := h.2; omega⟩) (fun b h => ⟨by have := h.1; omega, by have := h.2; omega⟩) (fun b h k => by have := h.2; have := k.1; omega)
  have HY := Hid.mk hY
  have HD := Hid.mk D
  clear S D hY zY b1 b2 b0 C1 O0_1 O1_1
  go_wp2
  refine bodyPost_ret (v := .agg #[.slice (some ⟨g0, 0, none⟩) n0 n0, .slice (some ⟨g1, 0, none⟩) n1 n1]) (by simp [results, Try.results8, go_sem, p0, p1]) rfl ⟨g0, g1, rfl, ?_, ?_⟩
  · have h := R.out
    rw [HY.out] at h
    exact h
  · have h := HD.out
    rw [HY.out] at h
    exact h


end Go.Proofs.Ytnfdncofobkjhaa

/- Slices of numbers that are alike are held equal. -/
namespace Go.Proofs.Ytnfdncofobkjhaa
open Go.RowKit

theorem eqIntS_same (a a' : Option Addr) (n c c' : Nat) (zs : List Int) (w : World) (hz : zs.length = n) (hn : n ≤ 1048576) (ha : At w a zs) (ha' : At w a' zs) :
    Calls Try.prog 20 #[.slice a n c, .slice a' n c'] w fun e w' => e = .returned (.bool true) ∧ Below w.heap.size w w' :=
  (eqIntS_any a a' n n c c' zs zs w hz hz hn hn ha ha').mono fun _ _ ⟨h1, h2⟩ => ⟨by rw [h1, decide_eq_true rfl], h2⟩
end Go.Proofs.Ytnfdncofobkjhaa

/- Contracts of the laws' eq of Proc, of equal ones. -/
namespace Go.Proofs.Ytnfdncofobkjhaa
open Go.RowKit

set_option maxRecDepth 100000 in
set_option maxHeartbeats 8000000 in
theorem eqProc_same (zi0 : Int) (zi1 : Int) (bo2 : Bool) (w : World) :
    Calls Try.prog 73 #[.agg #[.int .i64 zi0, .int .i64 zi1, .bool bo2], .agg #[.int .i64 zi0, .int .i64 zi1, .bool bo2]] w fun e w' => e = .returned (.bool true) ∧ Below w.heap.size w w' := by
  go_enter Try.func73, Try.ntmps73
  go_wp2
  go_ret
  exact ⟨rfl, ((Below.refl _ _).alloc (Nat.le_refl _) _).alloc (by simp) _⟩

set_option maxRecDepth 100000 in
set_option maxHeartbeats 8000000 in
theorem eqProcS_same (a a' : Option Addr) (n c c' : Nat) (xs : List TProc) (w : World) (hz : xs.length = n) (hn : n ≤ 1048576) (ha : AtSl RProc w a xs) (ha' : AtSl RProc w a' xs) :
    Calls Try.prog 38 #[.slice a n c, .slice a' n c'] w fun e w' => e = .returned (.bool true) ∧ Below w.heap.size w w' := by
  by_cases h0 : n = 0
  · subst h0
    go_enter Try.func38, Try.ntmps38
    go_wp2
    refine wp_loop_rounds 1 ?_
    rw [rounds_succ]
    go_wp2
    go_ret
    exact ⟨rfl, Below.refl _ _⟩
  · go_enter Try.func38, Try.ntmps38
    go_wp2
    go_loopw [5] (fun i wr => ∃ (k : Nat), k ≤ n ∧ i = .int .i64 k ∧ Below w.heap.size w wr) (fun i _ => n - (intOf i).toNat)
    case atStart => exact ⟨0, Nat.zero_le _, rfl, Below.refl _ _⟩
    case round =>
      obtain ⟨k, hk, rfl, hbw⟩ := hrel
      by_cases hlt : k < n
      · obtain ⟨b, off, rfl, _, hc⟩ := RProc.row (AtSl.below ha hbw) (by omega)
        obtain ⟨b', off', rfl, _, hc'⟩ := RProc.row (AtSl.below ha' hbw) (by omega)
        obtain ⟨⟨zi0, zi1, bo2⟩, hx⟩ : ∃ x, xs[k]? = some x := ⟨_, List.getElem?_eq_getElem (by omega)⟩
        obtain ⟨e0, e1, e2, _⟩ := hc k _ hx
        obtain ⟨d0, d1, d2, _⟩ := hc' k _ hx
        have hki : (k : Int) < (n : Int) := by omega
        have HE : Hid (∀ w' : World, Below wr.heap.size wr w' → Calls Try.prog 73 #[.agg #[.int .i64 zi0, .int .i64 zi1, .bool bo2], .agg #[.int .i64 zi0, .int .i64 zi1, .bool bo2]] w' fun e w'' => e = .returned (.bool true) ∧ Below w'.heap.size w' w'') :=
          fun w' _ => eqProc_same   zi0 zi1 bo2  w'  
        clear hc hc' ha ha' hx
        go_wp2_with fail
        go_region_held3 (fun w' => w'.cell? ⟨b, off + k * 3, none⟩ = some (.int .i64 zi0) ∧ w'.cell? ⟨b, off + k * 3 + 1, none⟩ = some (.int .i64 zi1) ∧ w'.cell? ⟨b, off + k * 3 + 2, none⟩ = some (.bool bo2) ∧ w'.cell? ⟨b', off' + k * 3, none⟩ = some (.int .i64 zi0) ∧ w'.cell? ⟨b', off' + k * 3 + 1, none⟩ = some (.int .i64 zi1) ∧ w'.cell? ⟨b', off' + k * 3 + 2, none⟩ = some (.bool bo2)) (refine ⟨?_, ?_, ?_, ?_, ?_, ?_⟩ <;> assumption)
          (first | (go_at_call 73; refine (HE.out wr.drew (Below.refl _ _).drew).mono ?_; rintro e w2 ⟨rfl, hb2⟩; have m0 := cell_later hb2 e0; have l0 := cell_later hb2 d0; have m1 := cell_later hb2 e1; have l1 := cell_later hb2 d1; have m2 := cell_later hb2 e2; have l2 := cell_later hb2 d2) | fail)
        go_wp2
        go_roundw
        case rel => exact ⟨k + 1, by omega, by go_num, hbw.drew.trans (hb2.mono hbw.size)⟩
        case measure => simp [intOf]; omega
      · go_wp2
        go_ret
        exact ⟨rfl, hbw⟩

end Go.Proofs.Ytnfdncofobkjhaa

/- Contracts of the laws' eq of Wire, of equal ones. -/
namespace Go.Proofs.Ytnfdncofobkjhaa
open Go.RowKit

set_option maxRecDepth 100000 in
set_option maxHeartbeats 8000000 in
theorem eqWire_same (a0 : Option Addr) (n0 : Nat) (c0 : Nat) (a1 : Option Addr) (n1 : Nat) (c1 : Nat) (a0' : Option Addr) (c0' : Nat) (a1' : Option Addr) (c1' : Nat) (bo2 : Bool) (x0 : List Int) (x1 : List Int) (w : World) (hz0 : x0.length = n0) (hs0 : n0 ≤ 1048576) (hz1 : x1.length = n1) (hs1 : n1 ≤ 1048576) (ha0 : At w a0 x0) (hb0 : At w a0' x0) (ha1 : At w a1 x1) (hb1 : At w a1' x1) :
    Calls Try.prog 74 #[.agg #[.slice a0 n0 c0, .slice a1 n1 c1, .bool bo2], .agg #[.slice a0' n0 c0', .slice a1' n1 c1', .bool bo2]] w fun e w' => e = .returned (.bool true) ∧ Below w.heap.size w w' := by
  obtain ⟨W, hW⟩ : ∃ W, W = ((w.alloc (.cells #[.slice a0 n0 c0, .slice a1 n1 c1, .bool bo2] 76)).alloc (.cells #[.slice a0' n0 c0', .slice a1' n1 c1', .bool bo2] 76)) := ⟨_, rfl⟩
  have B0 : Below w.heap.size w W := by rw [hW]; exact (((Below.refl _ _).alloc (Nat.le_refl _) _).alloc (by simp) _)
  have p1 : W.cell? ⟨w.heap.size, 1, none⟩ = some (.slice a1 n1 c1) := by rw [hW]; simp
  have r1 : W.cell? ⟨w.heap.size + 1, 1, none⟩ = some (.slice a1' n1 c1') := by rw [hW]; simp
  have p2 : W.cell? ⟨w.heap.size, 2, none⟩ = some (.bool bo2) := by rw [hW]; simp
  have r2 : W.cell? ⟨w.heap.size + 1, 2, none⟩ = some (.bool bo2) := by rw [hW]; simp
  have HA0 := Hid.mk (And.intro ha0 hb0)
  have HZ0 := Hid.mk hz0
  clear ha0 hb0 hz0
  have HA1 := Hid.mk (And.intro ha1 hb1)
  have HZ1 := Hid.mk hz1
  clear ha1 hb1 hz1
  go_enter Try.func74, Try.ntmps74
  go_wp2_with fail
  rw [← hW]
  clear hW
  refine (eqIntS_same a0 a0' n0 c0 c0' x0 W HZ0.out hs0 (At.below HA0.out.1 B0) (At.below HA0.out.2 B0)).mono ?_
  rintro e w0 ⟨rfl, hb0⟩
  have B1 := B0.trans (hb0.mono B0.size)
  have p1 := cell_later hb0 p1
  have r1 := cell_later hb0 r1
  have p2 := cell_later hb0 p2
  have r2 := cell_later hb0 r2
  go_wp2_with fail
  refine (eqIntS_same a1 a1' n1 c1 c1' x1 w0 HZ1.out hs1 (At.below HA1.out.1 B1) (At.below HA1.out.2 B1)).mono ?_
  rintro e w1 ⟨rfl, hb1⟩
  have B2 := B1.trans (hb1.mono B1.size)
  have p2 := cell_later hb1 p2
  have r2 := cell_later hb1 r2
  go_wp2
  go_ret
  exact ⟨rfl, B2⟩

set_option maxRecDepth 100000 in
set_option maxHeartbeats 8000000 in
theorem eqWireS_same (a a' : Option Addr) (n c c' : Nat) (xs : List TWire) (w : World) (hz : xs.length = n) (hn : n ≤ 1048576) (hs : ∀ (i : Nat) (x : TWire), xs[i]? = some x → costWire x ≤ 1048576) (ha : AtSl RWire w a xs) (ha' : AtSl RWire w a' xs) :
    Calls Try.prog 39 #[.slice a n c, .slice a' n c'] w fun e w' => e = .returned (.bool true) ∧ Below w.heap.size w w' := by
  by_cases h0 : n = 0
  · subst h0
    go_enter Try.func39, Try.ntmps39
    go_wp2
    refine wp_loop_rounds 1 ?_
    rw [rounds_succ]
    go_wp2
    go_ret
    exact ⟨rfl, Below.refl _ _⟩
  · go_enter Try.func39, Try.ntmps39
    go_wp2
    go_loopw [5] (fun i wr => ∃ (k : Nat), k ≤ n ∧ i = .int .i64 k ∧ Below w.heap.size w wr) (fun i _ => n - (intOf i).toNat)
    case atStart => exact ⟨0, Nat.zero_le _, rfl, Below.refl _ _⟩
    case round =>
      obtain ⟨k, hk, rfl, hbw⟩ := hrel
      by_cases hlt : k < n
      · obtain ⟨b, off, rfl, _, hc⟩ := RWire.row (AtSl.below ha hbw) (by omega)
        obtain ⟨b', off', rfl, _, hc'⟩ := RWire.row (AtSl.below ha' hbw) (by omega)
        obtain ⟨⟨x0, x1, bo2⟩, hx⟩ : ∃ x, xs[k]? = some x := ⟨_, List.getElem?_eq_getElem (by omega)⟩
        obtain ⟨a0, n0, c0, a1, n1, c1, e0, e1, e2, ⟨hv0, hu0, hw0, _⟩, ⟨hv1, hu1, hw1, _⟩⟩ := hc k _ hx
        obtain ⟨a0', n0', c0', a1', n1', c1', d0, d1, d2, ⟨hv0', _, hw0', _⟩, ⟨hv1', _, hw1', _⟩⟩ := hc' k _ hx
        obtain rfl : n0 = n0' := hv0.symm.trans hv0'
        obtain rfl : n1 = n1' := hv1.symm.trans hv1'
        have hsm := smallWire hv0 hv1 (hs k _ hx)
        have hki : (k : Int) < (n : Int) := by omega
        have HE : Hid (∀ w' : World, Below wr.heap.size wr w' → Calls Try.prog 74 #[.agg #[.slice a0 n0 c0, .slice a1 n1 c1, .bool bo2], .agg #[.slice a0' n0 c0', .slice a1' n1 c1', .bool bo2]] w' fun e w'' => e = .returned (.bool true) ∧ Below w'.heap.size w' w'') :=
          fun w' hw' => eqWire_same a0 n0 c0 a1 n1 c1 a0' c0' a1' c1' bo2 x0 x1 w' hv0 hsm.1 hv1 hsm.2 (At.below hw0 hw') (At.below hw0' hw') (At.below hw1 hw') (At.below hw1' hw')
        clear hc hc' ha ha' hx hs hsm hv0 hw0 hv0' hw0' hv1 hw1 hv1' hw1'
        go_wp2_with fail
        go_region_held3 (fun w' => w'.cell? ⟨b, off + k * 3, none⟩ = some (.slice a0 n0 c0) ∧ w'.cell? ⟨b, off + k * 3 + 1, none⟩ = some (.slice a1 n1 c1) ∧ w'.cell? ⟨b, off + k * 3 + 2, none⟩ = some (.bool bo2) ∧ w'.cell? ⟨b', off' + k * 3, none⟩ = some (.slice a0' n0 c0') ∧ w'.cell? ⟨b', off' + k * 3 + 1, none⟩ = some (.slice a1' n1 c1') ∧ w'.cell? ⟨b', off' + k * 3 + 2, none⟩ = some (.bool bo2)) (refine ⟨?_, ?_, ?_, ?_, ?_, ?_⟩ <;> assumption)
          (first | (go_at_call 74; refine (HE.out wr.drew (Below.refl _ _).drew).mono ?_; rintro e w2 ⟨rfl, hb2⟩; have m0 := cell_later hb2 e0; have l0 := cell_later hb2 d0; have m1 := cell_later hb2 e1; have l1 := cell_later hb2 d1; have m2 := cell_later hb2 e2; have l2 := cell_later hb2 d2) | fail)
        go_wp2
        go_roundw
        case rel => exact ⟨k + 1, by omega, by go_num, hbw.drew.trans (hb2.mono hbw.size)⟩
        case measure => simp [intOf]; omega
      · go_wp2
        go_ret
        exact ⟨rfl, hbw⟩

end Go.Proofs.Ytnfdncofobkjhaa
