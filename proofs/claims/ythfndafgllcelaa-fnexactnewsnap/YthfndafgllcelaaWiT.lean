/- Contracts of the laws' to of Wire. -/
import Derived.Test.YthfndafgllcelaaWiG
import Derived.Test.YthfndafgllcelaaRepD
import Derived.Test.YthfndafgllcelaaBlk
import Derived.Deep.CutBlock
namespace Go.Proofs.Ythfndafgllcelaa
open Go.RowKit

set_option maxRecDepth 100000 in
set_option maxHeartbeats 8000000 in
theorem toWire_rep (a0 : Option Addr) (n0 : Nat) (c0 : Nat) (a1 : Option Addr) (n1 : Nat) (c1 : Nat) (bo2 : Bool) (x0 : List Int) (x1 : List Int) (w : World) (hz0 : x0.length = n0) (hs0 : n0 ≤ 1048576) (hz1 : x1.length = n1) (hs1 : n1 ≤ 1048576) (ha0 : At w a0 x0) (ha1 : At w a1 x1) :
    Calls Try.prog 70 #[.agg #[.slice a0 n0 c0, .slice a1 n1 c1, .bool bo2]] w fun e w' => ∃ g0 g1, e = .returned (.agg #[.slice (some ⟨g0, 0, none⟩) n0 n0, .slice (some ⟨g1, 0, none⟩) n1 n1, .bool bo2]) ∧ RWire.Own w' (From w.heap.size w'.heap.size) [.slice (some ⟨g0, 0, none⟩) n0 n0, .slice (some ⟨g1, 0, none⟩) n1 n1, .bool bo2] (x0, x1, bo2) ∧ Below w.heap.size w w' := by
  obtain ⟨W, hW⟩ : ∃ W, W = (((w.alloc (.cells #[.slice a0 n0 c0, .slice a1 n1 c1, .bool bo2] 88)).alloc (.cells #[.slice none 0 0, .slice none 0 0, .bool false] 74)).alloc (.cells #[.slice none 0 0, .slice none 0 0, .bool false] 74)) := ⟨_, rfl⟩
  have B0 : Below w.heap.size w W := by rw [hW]; exact ((((Below.refl _ _).alloc (Nat.le_refl _) _).alloc (by simp) _).alloc (by simp; omega) _)
  have zW : w.heap.size + 2 < W.heap.size := by rw [hW]; simp
  have b2 : W.heap[w.heap.size + 1 + 1]? = some (.cells #[.slice none 0 0, .slice none 0 0, .bool false] 74 (0, 0)) := by
    rw [hW]
    have q := heap_alloc_new ((w.alloc (.cells #[.slice a0 n0 c0, .slice a1 n1 c1, .bool bo2] 88)).alloc (.cells #[.slice none 0 0, .slice none 0 0, .bool false] 74)) (.cells #[.slice none 0 0, .slice none 0 0, .bool false] 74)
    simpa only [World.size_alloc] using q
  have b1 : W.heap[w.heap.size + 1]? = some (.cells #[.slice none 0 0, .slice none 0 0, .bool false] 74 (0, 0)) := by
    rw [hW]
    refine blk_alloc ?_ _
    have q := heap_alloc_new (w.alloc (.cells #[.slice a0 n0 c0, .slice a1 n1 c1, .bool bo2] 88)) (.cells #[.slice none 0 0, .slice none 0 0, .bool false] 74)
    simpa only [World.size_alloc] using q
  have b0 : W.heap[w.heap.size]? = some (.cells #[.slice a0 n0 c0, .slice a1 n1 c1, .bool bo2] 88 (0, 0)) := by
    rw [hW]
    exact blk_alloc (blk_alloc (heap_alloc_new w _) _) _
  have HA0 := Hid.mk ha0
  have HZ0 := Hid.mk hz0
  clear ha0 hz0
  have HA1 := Hid.mk ha1
  have HZ1 := Hid.mk hz1
  clear ha1 hz1
  go_enter Try.func70, Try.ntmps70
  go_wp2_with fail
  rw [← hW]
  clear hW
  refine (toInts_rep a0 n0 c0 x0 W HZ0.out hs0 (At.below HA0.out B0)).mono ?_
  rintro e w0 ⟨g0, rfl, o0, hb0⟩
  have k2 := blk_below b2 hb0
  have k1 := blk_below b1 hb0
  have k0 := blk_below b0 hb0
  clear b2 b1 b0
  have z0 := hb0.size
  have E0 : Below w.heap.size w w0 := B0.trans (hb0.mono (by omega))
  have q := blk_cell k2 0 (v := .slice none 0 0) rfl
  have f := blk_frozen k2 0
  have r := blk_cell k0 1 (v := .slice a1 n1 c1) rfl
  obtain ⟨X0, hX0⟩ : ∃ u, u = w0.setCell ⟨w.heap.size + 1 + 1, 0, none⟩ (.slice (some ⟨g0, 0, none⟩) n0 n0) := ⟨_, rfl⟩
  have y0 : w0.heap.size ≤ X0.heap.size := by rw [hX0]; simp [World.setCell]
  have b2 : X0.heap[w.heap.size + 1 + 1]? = some (.cells #[.slice (some ⟨g0, 0, none⟩) n0 n0, .slice none 0 0, .bool false] 74 (0, 0)) := by rw [hX0]; exact blk_set k2 0 _
  have b1 : X0.heap[w.heap.size + 1]? = some (.cells #[.slice none 0 0, .slice none 0 0, .bool false] 74 (0, 0)) := by rw [hX0]; exact blk_other k1 (by simp) _
  have b0 : X0.heap[w.heap.size]? = some (.cells #[.slice a0 n0 c0, .slice a1 n1 c1, .bool bo2] 88 (0, 0)) := by rw [hX0]; exact blk_other k0 (by simp; omega) _
  have C0 : Below w.heap.size w X0 := by rw [hX0]; exact E0.setCell (by simp; omega) _
  have S0 : Hid (Off (From w.heap.size (w.heap.size + 3)) w0 X0) := by rw [hX0]; exact Off.set ⟨by simp; omega, by simp⟩ _
  have O0_0 := Hid.mk (RInts.ownOff o0 S0.out (fun b h k => by have := h.1; have := k.2; omega))
  clear o0 hb0
  clear S0 k2 k1 k0
  go_wp2_with fail
  rw [← hX0]
  clear hX0
  clear q f r
  refine (toInts_rep a1 n1 c1 x1 X0 HZ1.out hs1 (At.below HA1.out C0)).mono ?_
  rintro e w1 ⟨g1, rfl, o1, hb1⟩
  have k2 := blk_below b2 hb1
  have k1 := blk_below b1 hb1
  have k0 := blk_below b0 hb1
  clear b2 b1 b0
  have z1 := hb1.size
  have E1 : Below w.heap.size w w1 := C0.trans (hb1.mono (by omega))
  have q := blk_cell k2 1 (v := .slice none 0 0) rfl
  have f := blk_frozen k2 1
  have r : True := trivial
  obtain ⟨X1, hX1⟩ : ∃ u, u = w1.setCell ⟨w.heap.size + 1 + 1, 1, none⟩ (.slice (some ⟨g1, 0, none⟩) n1 n1) := ⟨_, rfl⟩
  have y1 : w1.heap.size ≤ X1.heap.size := by rw [hX1]; simp [World.setCell]
  have b2 : X1.heap[w.heap.size + 1 + 1]? = some (.cells #[.slice (some ⟨g0, 0, none⟩) n0 n0, .slice (some ⟨g1, 0, none⟩) n1 n1, .bool false] 74 (0, 0)) := by rw [hX1]; exact blk_set k2 1 _
  have b1 : X1.heap[w.heap.size + 1]? = some (.cells #[.slice none 0 0, .slice none 0 0, .bool false] 74 (0, 0)) := by rw [hX1]; exact blk_other k1 (by simp) _
  have b0 : X1.heap[w.heap.size]? = some (.cells #[.slice a0 n0 c0, .slice a1 n1 c1, .bool bo2] 88 (0, 0)) := by rw [hX1]; exact blk_other k0 (by simp; omega) _
  have C1 : Below w.heap.size w X1 := by rw [hX1]; exact E1.setCell (by simp; omega) _
  have S1 : Hid (Off (From w.heap.size (w.heap.size + 3)) w1 X1) := by rw [hX1]; exact Off.set ⟨by simp; omega, by simp⟩ _
  have O0_1 := Hid.mk (RInts.ownOff (RInts.ownBelow O0_0.out hb1) S1.out (fun b h k => by have := h.1; have := k.2; omega))
  clear O0_0
  have O1_1 := Hid.mk (RInts.ownOff o1 S1.out (fun b h k => by have := h.1; have := k.2; omega))
  clear o1 hb1
  clear S1 k2 k1 k0
  go_upto_region 4 with fail
  rw [← hX1]
  clear hX1
  clear q f r
  have k2 := b2
  have k1 := b1
  have k0 := b0
  clear b2 b1 b0
  have q := blk_cell k2 2 (v := .bool false) rfl
  have f := blk_frozen k2 2
  have r := blk_cell k0 2 (v := .bool bo2) rfl
  obtain ⟨X2, hX2⟩ : ∃ u, u = X1.setCell ⟨w.heap.size + 1 + 1, 2, none⟩ (.bool bo2) := ⟨_, rfl⟩
  have y2 : X1.heap.size ≤ X2.heap.size := by rw [hX2]; simp [World.setCell]
  have b2 : X2.heap[w.heap.size + 1 + 1]? = some (.cells #[.slice (some ⟨g0, 0, none⟩) n0 n0, .slice (some ⟨g1, 0, none⟩) n1 n1, .bool bo2] 74 (0, 0)) := by rw [hX2]; exact blk_set k2 2 _
  have b1 : X2.heap[w.heap.size + 1]? = some (.cells #[.slice none 0 0, .slice none 0 0, .bool false] 74 (0, 0)) := by rw [hX2]; exact blk_other k1 (by simp) _
  have b0 : X2.heap[w.heap.size]? = some (.cells #[.slice a0 n0 c0, .slice a1 n1 c1, .bool bo2] 88 (0, 0)) := by rw [hX2]; exact blk_other k0 (by simp; omega) _
  have C2 : Below w.heap.size w X2 := by rw [hX2]; exact C1.setCell (by simp; omega) _
  have S2 : Hid (Off (From w.heap.size (w.heap.size + 3)) X1 X2) := by rw [hX2]; exact Off.set ⟨by simp; omega, by simp⟩ _
  have O0_2 := Hid.mk (RInts.ownOff O0_1.out S2.out (fun b h k => by have := h.1; have := k.2; omega))
  clear O0_1
  have O1_2 := Hid.mk (RInts.ownOff O1_1.out S2.out (fun b h k => by have := h.1; have := k.2; omega))
  clear O1_1
  clear S2 k2 k1 k0
  go_upto_region 5 with fail
  rw [← hX2]
  clear hX2 q f r
  have u0 := blk_cell b2 0 (v := .slice (some ⟨g0, 0, none⟩) n0 n0) rfl
  have p0 := blk_cell b1 0 (v := .slice none 0 0) rfl
  have f0 := blk_frozen b1 0
  have u1 := blk_cell b2 1 (v := .slice (some ⟨g1, 0, none⟩) n1 n1) rfl
  have p1 := blk_cell b1 1 (v := .slice none 0 0) rfl
  have f1 := blk_frozen b1 1
  have u2 := blk_cell b2 2 (v := .bool bo2) rfl
  have p2 := blk_cell b1 2 (v := .bool false) rfl
  have f2 := blk_frozen b1 2
  obtain ⟨Y, hY⟩ : ∃ u, u = stores X2 (w.heap.size + 1) 0 [.slice (some ⟨g0, 0, none⟩) n0 n0, .slice (some ⟨g1, 0, none⟩) n1 n1, .bool bo2] := ⟨_, rfl⟩
  have D : Below w.heap.size w Y := by rw [hY]; exact stores_below _ _ _ _ C2 (by omega)
  have S : Off (From w.heap.size (w.heap.size + 3)) X2 Y := by rw [hY]; exact stores_off _ _ _ _ ⟨by omega, by omega⟩
  have zY : Y.heap.size = X2.heap.size := by rw [hY]; exact stores_size _ _ _ _
  have R : Hid (RWire.Own Y (From w.heap.size Y.heap.size) [.slice (some ⟨g0, 0, none⟩) n0 n0, .slice (some ⟨g1, 0, none⟩) n1 n1, .bool bo2] (x0, x1, bo2)) :=
    RWire.own_mk (RInts.ownOff O0_2.out S (fun b h k => by have := h.1; have := k.2; omega)) (RInts.ownOff O1_2.out S (fun b h k => by have := h.1; have := k.2; omega)) (fun b h => ⟨by have := h.1; omega, by have := h.2; omega⟩) (fun b h => ⟨by have := h.1; omega, by have := h.2; omega⟩) (fun b h k => by have := h.2; have := k.1; omega)
  have HY := Hid.mk hY
  have HD := Hid.mk D
  clear S D hY zY b1 b2 b0 C2 O0_2 O1_2
  go_wp2
  refine bodyPost_ret (v := .agg #[.slice (some ⟨g0, 0, none⟩) n0 n0, .slice (some ⟨g1, 0, none⟩) n1 n1, .bool bo2]) (by simp [results, Try.results70, go_sem, p0, p1, p2]) rfl ⟨g0, g1, rfl, ?_, ?_⟩
  · have h := R.out
    rw [HY.out] at h
    exact h
  · have h := HD.out
    rw [HY.out] at h
    exact h

theorem Try.infoWire : (Try.prog.info? 74).map (fun i => (i.zero, i.size, i.bytes)) = some (some (.agg #[.slice none 0 0, .slice none 0 0, .bool false]), 3, 56) := by kernel_rfl

set_option maxRecDepth 100000 in
set_option maxHeartbeats 8000000 in
theorem toWireS_rep (a : Option Addr) (n c : Nat) (xs : List TWire) (w : World) (hz : xs.length = n) (hn : n ≤ 1048576) (hs : ∀ (i : Nat) (x : TWire), xs[i]? = some x → costWire x ≤ 1048576) (ha : AtSl RWire w a xs) :
    Calls Try.prog 49 #[.slice a n c] w fun e w' => ∃ g, e = .returned (.slice (some ⟨g, 0, none⟩) n n) ∧ RWires.Own w' (From w.heap.size w'.heap.size) [.slice (some ⟨g, 0, none⟩) n n] xs ∧ Below w.heap.size w w' := by
  obtain ⟨i0, hi, hz0, hz1, hz2⟩ := info_parts Try.infoWire
  go_enter Try.func49, Try.ntmps49
  go_wp2_with (at_make; refine wpList_make_full _ rfl _ _ 24 rfl w.heap.size 74 i0 (.agg #[.slice none 0 0, .slice none 0 0, .bool false]) 3 Try.underlying24 hi hz0 hz1 .i64 .i64 _ _ n rfl rfl rfl rfl (by rw [hz2]; omega) (by unfold maxLen; omega) (Nat.le_refl _) ?_; intro w1 hown hg)
  have hb1 : Below w.heap.size w w1 := (Below.refl _ _).grown hg (Nat.le_refl _) (by simp)
  have hlt1 := (hown.lt w.heap.size rfl).2
  obtain ⟨cs, hcs⟩ : ∃ cs, cs = (madeCells (Value.agg #[.slice none 0 0, .slice none 0 0, .bool false]).cells (n * 3)).toList := ⟨_, rfl⟩
  rw [← hcs] at hown
  have hst : Laid RWire w1 (From w.heap.size w1.heap.size) 74 (some ⟨w.heap.size, 0, none⟩) n n xs cs (fun _ _ => False) 0 := Laid.start hz (by omega) (owns_mono hown (Nat.zero_le _)) (fun b hb => hown.lt b hb) _
  clear hcs hown hg
  go_loopw [4] (fun i wr => ∃ (k : Nat) (cells : List Value) (G : Nat → Nat → Prop), k ≤ n ∧ i = .int .i64 k ∧ Laid RWire wr (From w.heap.size wr.heap.size) 74 (some ⟨w.heap.size, 0, none⟩) n n xs cells G k ∧ w.heap.size < wr.heap.size ∧ Below w.heap.size w wr) (fun i _ => n - (intOf i).toNat)
  case atStart => exact ⟨0, cs, _, Nat.zero_le _, rfl, hst, hlt1, hb1⟩
  case round =>
    clear hst hb1 hlt1 cs
    obtain ⟨k, cells, G, hk, rfl, ho, hzr, hbw⟩ := hrel
    by_cases hlt : k < n
    · obtain ⟨b, off, rfl, _, hc⟩ := RWire.row (AtSl.below ha hbw) (by omega)
      obtain ⟨⟨x0, x1, bo2⟩, hx⟩ : ∃ x, xs[k]? = some x := ⟨_, List.getElem?_eq_getElem (by omega)⟩
      obtain ⟨a0, n0, c0, a1, n1, c1, e0, e1, e2, ⟨hv0, hu0, hw0, _⟩, ⟨hv1, hu1, hw1, _⟩⟩ := hc k _ hx
      have hsm := smallWire hv0 hv1 (hs k _ hx)
      have hki : (k : Int) < (n : Int) := by omega
      have HO := Hid.mk ho
      have HX := Hid.mk hx
      have HC := Hid.mk (toWire_rep a0 n0 c0 a1 n1 c1 bo2 x0 x1 wr hv0 hsm.1 hv1 hsm.2 hw0 hw1)
      clear hc ha ho hx hs hsm hv0 hw0 hv1 hw1
      go_wp2_with fail
      refine HC.out.mono ?_
      rintro e w2 ⟨g0, g1, rfl, ho2, hb2⟩
      have hput := HO.out.put hlt (fun b hb => hb.2) hb2 HX.out ho2 (fun b hb => hb.1)
      have z2 := hb2.size
      have hput2 := hput.mono (F' := From w.heap.size w2.heap.size) (fun b hb => by rcases hb with hb | hb; exact ⟨hb.1, by have := hb.2; omega⟩; exact ⟨by have := hb.1; omega, hb.2⟩)
      have HP : Hid (Laid RWire (((w2.setCell ⟨w.heap.size, k * 3, none⟩ (.slice (some ⟨g0, 0, none⟩) n0 n0)).setCell ⟨w.heap.size, k * 3 + 1, none⟩ (.slice (some ⟨g1, 0, none⟩) n1 n1)).setCell ⟨w.heap.size, k * 3 + 2, none⟩ (.bool bo2)) (From w.heap.size w2.heap.size) 74 (some ⟨w.heap.size, 0, none⟩) n n xs _ _ (k + 1)) := hput2
      have hout := (HO.out.below hb2).outer
      have hln := hout.1
      have hln : cells.length = n * 3 := hln
      obtain ⟨v0, hv0⟩ : ∃ u, cells[k * 3]? = some u := ⟨_, List.getElem?_eq_getElem (by omega)⟩
      have q0 : w2.cell? ⟨w.heap.size, k * 3, none⟩ = some v0 := (hout.cellAt _ (show k * 3 < n * 3 by omega)).trans hv0
      have f0 : w2.frozen? ⟨w.heap.size, k * 3, none⟩ = false := hout.frozenAt _
      clear hv0
      obtain ⟨v1, hv1⟩ : ∃ u, cells[k * 3 + 1]? = some u := ⟨_, List.getElem?_eq_getElem (by omega)⟩
      have q1 : w2.cell? ⟨w.heap.size, k * 3 + 1, none⟩ = some v1 := (hout.cellAt _ (show k * 3 + 1 < n * 3 by omega)).trans hv1
      have f1 : w2.frozen? ⟨w.heap.size, k * 3 + 1, none⟩ = false := hout.frozenAt _
      clear hv1
      obtain ⟨v2, hv2⟩ : ∃ u, cells[k * 3 + 2]? = some u := ⟨_, List.getElem?_eq_getElem (by omega)⟩
      have q2 : w2.cell? ⟨w.heap.size, k * 3 + 2, none⟩ = some v2 := (hout.cellAt _ (show k * 3 + 2 < n * 3 by omega)).trans hv2
      have f2 : w2.frozen? ⟨w.heap.size, k * 3 + 2, none⟩ = false := hout.frozenAt _
      clear hv2
      have HB : Hid (Below w.heap.size w (((w2.setCell ⟨w.heap.size, k * 3, none⟩ (.slice (some ⟨g0, 0, none⟩) n0 n0)).setCell ⟨w.heap.size, k * 3 + 1, none⟩ (.slice (some ⟨g1, 0, none⟩) n1 n1)).setCell ⟨w.heap.size, k * 3 + 2, none⟩ (.bool bo2))) := ((((hbw.trans (hb2.mono hbw.size)).setCell (Nat.le_refl _) _).setCell (Nat.le_refl _) _).setCell (Nat.le_refl _) _)
      clear hput hput2 hout hln hb2 hbw ho2 HC e0 e1 e2
      go_wp2
      go_roundw
      case rel => exact ⟨k + 1, _, _, by omega, by go_num, by simpa only [World.setCell, Array.size_modify] using HP.out, by simp [World.setCell]; omega, HB.out⟩
      case measure => simp [intOf]; omega
    · obtain rfl : k = n := by omega
      go_wp2
      go_ret
      exact ⟨_, rfl, ⟨_, _, _, _, _, rfl, ho⟩, hbw⟩

end Go.Proofs.Ythfndafgllcelaa
