/- Contracts of the laws' to of Prepared. -/
import Derived.Test.YtecaaekilbdgdaaPpG
import Derived.Test.YtecaaekilbdgdaaRepD
import Derived.Test.YtecaaekilbdgdaaBlk
import Derived.Deep.CutBlock
namespace Go.Proofs.Ytecaaekilbdgdaa
open Go.RowKit

set_option maxRecDepth 100000 in
set_option maxHeartbeats 8000000 in
theorem toPrepared_rep (a2 : Option Addr) (n2 : Nat) (c2 : Nat) (zi0 : Int) (zi1 : Int) (x2 : List Int) (w : World) (hz2 : x2.length = n2) (hs2 : n2 ≤ 1048576) (ha2 : At w a2 x2) :
    Calls Try.prog 52 #[.agg #[.int .i64 zi0, .int .i64 zi1, .slice a2 n2 c2]] w fun e w' => ∃ g2, e = .returned (.agg #[.int .i64 zi0, .int .i64 zi1, .slice (some ⟨g2, 0, none⟩) n2 n2]) ∧ RPrepared.Own w' (From w.heap.size w'.heap.size) [.int .i64 zi0, .int .i64 zi1, .slice (some ⟨g2, 0, none⟩) n2 n2] (zi0, zi1, x2) ∧ Below w.heap.size w w' := by
  obtain ⟨W, hW⟩ : ∃ W, W = (((w.alloc (.cells #[.int .i64 zi0, .int .i64 zi1, .slice a2 n2 c2] 63)).alloc (.cells #[.int .i64 0, .int .i64 0, .slice none 0 0] 50)).alloc (.cells #[.int .i64 zi0, .int .i64 zi1, .slice none 0 0] 50)) := ⟨_, rfl⟩
  have B0 : Below w.heap.size w W := by rw [hW]; exact ((((Below.refl _ _).alloc (Nat.le_refl _) _).alloc (by simp) _).alloc (by simp; omega) _)
  have zW : w.heap.size + 2 < W.heap.size := by rw [hW]; simp
  have b2 : W.heap[w.heap.size + 1 + 1]? = some (.cells #[.int .i64 zi0, .int .i64 zi1, .slice none 0 0] 50 (0, 0)) := by
    rw [hW]
    have q := heap_alloc_new ((w.alloc (.cells #[.int .i64 zi0, .int .i64 zi1, .slice a2 n2 c2] 63)).alloc (.cells #[.int .i64 0, .int .i64 0, .slice none 0 0] 50)) (.cells #[.int .i64 zi0, .int .i64 zi1, .slice none 0 0] 50)
    simpa only [World.size_alloc] using q
  have b1 : W.heap[w.heap.size + 1]? = some (.cells #[.int .i64 0, .int .i64 0, .slice none 0 0] 50 (0, 0)) := by
    rw [hW]
    refine blk_alloc ?_ _
    have q := heap_alloc_new (w.alloc (.cells #[.int .i64 zi0, .int .i64 zi1, .slice a2 n2 c2] 63)) (.cells #[.int .i64 0, .int .i64 0, .slice none 0 0] 50)
    simpa only [World.size_alloc] using q
  have b0 : W.heap[w.heap.size]? = some (.cells #[.int .i64 zi0, .int .i64 zi1, .slice a2 n2 c2] 63 (0, 0)) := by
    rw [hW]
    exact blk_alloc (blk_alloc (heap_alloc_new w _) _) _
  have HA2 := Hid.mk ha2
  have HZ2 := Hid.mk hz2
  clear ha2 hz2
  go_enter Try.func52, Try.ntmps52
  go_wp2_with fail
  rw [← hW]
  clear hW
  refine (toInts_rep a2 n2 c2 x2 W HZ2.out hs2 (At.below HA2.out B0)).mono ?_
  rintro e w2 ⟨g2, rfl, o2, hb2⟩
  have k2 := blk_below b2 hb2
  have k1 := blk_below b1 hb2
  have k0 := blk_below b0 hb2
  clear b2 b1 b0
  have z2 := hb2.size
  have E2 : Below w.heap.size w w2 := B0.trans (hb2.mono (by omega))
  have q := blk_cell k2 2 (v := .slice none 0 0) rfl
  have f := blk_frozen k2 2
  have r : True := trivial
  obtain ⟨X2, hX2⟩ : ∃ u, u = w2.setCell ⟨w.heap.size + 1 + 1, 2, none⟩ (.slice (some ⟨g2, 0, none⟩) n2 n2) := ⟨_, rfl⟩
  have y2 : w2.heap.size ≤ X2.heap.size := by rw [hX2]; simp [World.setCell]
  have b2 : X2.heap[w.heap.size + 1 + 1]? = some (.cells #[.int .i64 zi0, .int .i64 zi1, .slice (some ⟨g2, 0, none⟩) n2 n2] 50 (0, 0)) := by rw [hX2]; exact blk_set k2 2 _
  have b1 : X2.heap[w.heap.size + 1]? = some (.cells #[.int .i64 0, .int .i64 0, .slice none 0 0] 50 (0, 0)) := by rw [hX2]; exact blk_other k1 (by simp) _
  have b0 : X2.heap[w.heap.size]? = some (.cells #[.int .i64 zi0, .int .i64 zi1, .slice a2 n2 c2] 63 (0, 0)) := by rw [hX2]; exact blk_other k0 (by simp; omega) _
  have C2 : Below w.heap.size w X2 := by rw [hX2]; exact E2.setCell (by simp; omega) _
  have S2 : Hid (Off (From w.heap.size (w.heap.size + 3)) w2 X2) := by rw [hX2]; exact Off.set ⟨by simp; omega, by simp⟩ _
  have O2_2 := Hid.mk (RInts.ownOff o2 S2.out (fun b h k => by have := h.1; have := k.2; omega))
  clear o2 hb2
  clear S2 k2 k1 k0
  go_upto_region 5 with fail
  rw [← hX2]
  clear hX2 q f r
  have u0 := blk_cell b2 0 (v := .int .i64 zi0) rfl
  have p0 := blk_cell b1 0 (v := .int .i64 0) rfl
  have f0 := blk_frozen b1 0
  have u1 := blk_cell b2 1 (v := .int .i64 zi1) rfl
  have p1 := blk_cell b1 1 (v := .int .i64 0) rfl
  have f1 := blk_frozen b1 1
  have u2 := blk_cell b2 2 (v := .slice (some ⟨g2, 0, none⟩) n2 n2) rfl
  have p2 := blk_cell b1 2 (v := .slice none 0 0) rfl
  have f2 := blk_frozen b1 2
  obtain ⟨Y, hY⟩ : ∃ u, u = stores X2 (w.heap.size + 1) 0 [.int .i64 zi0, .int .i64 zi1, .slice (some ⟨g2, 0, none⟩) n2 n2] := ⟨_, rfl⟩
  have D : Below w.heap.size w Y := by rw [hY]; exact stores_below _ _ _ _ C2 (by omega)
  have S : Off (From w.heap.size (w.heap.size + 3)) X2 Y := by rw [hY]; exact stores_off _ _ _ _ ⟨by omega, by omega⟩
  have zY : Y.heap.size = X2.heap.size := by rw [hY]; exact stores_size _ _ _ _
  have R : Hid (RPrepared.Own Y (From w.heap.size Y.heap.size) [.int .i64 zi0, .int .i64 zi1, .slice (some ⟨g2, 0, none⟩) n2 n2] (zi0, zi1, x2)) :=
    RPrepared.own_mk (RInts.ownOff O2_2.out S (fun b h k => by have := h.1; have := k.2; omega)) (fun b h => ⟨by have := h.1; omega, by have := h.2; omega⟩) 
  have HY := Hid.mk hY
  have HD := Hid.mk D
  clear S D hY zY b1 b2 b0 C2 O2_2
  go_wp2
  refine bodyPost_ret (v := .agg #[.int .i64 zi0, .int .i64 zi1, .slice (some ⟨g2, 0, none⟩) n2 n2]) (by simp [results, Try.results52, go_sem, p0, p1, p2]) rfl ⟨g2, rfl, ?_, ?_⟩
  · have h := R.out
    rw [HY.out] at h
    exact h
  · have h := HD.out
    rw [HY.out] at h
    exact h

theorem Try.infoPrepared : (Try.prog.info? 50).map (fun i => (i.zero, i.size, i.bytes)) = some (some (.agg #[.int .i64 0, .int .i64 0, .slice none 0 0]), 3, 40) := by kernel_rfl

set_option maxRecDepth 100000 in
set_option maxHeartbeats 8000000 in
theorem toPreparedS_rep (a : Option Addr) (n c : Nat) (xs : List TPrepared) (w : World) (hz : xs.length = n) (hn : n ≤ 1048576) (hs : ∀ (i : Nat) (x : TPrepared), xs[i]? = some x → costPrepared x ≤ 1048576) (ha : AtSl RPrepared w a xs) :
    Calls Try.prog 35 #[.slice a n c] w fun e w' => ∃ g, e = .returned (.slice (some ⟨g, 0, none⟩) n n) ∧ RPrepareds.Own w' (From w.heap.size w'.heap.size) [.slice (some ⟨g, 0, none⟩) n n] xs ∧ Below w.heap.size w w' := by
  obtain ⟨i0, hi, hz0, hz1, hz2⟩ := info_parts Try.infoPrepared
  go_enter Try.func35, Try.ntmps35
  go_wp2_with (at_make; refine wpList_make_full _ rfl _ _ 23 rfl w.heap.size 50 i0 (.agg #[.int .i64 0, .int .i64 0, .slice none 0 0]) 3 Try.underlying23 hi hz0 hz1 .i64 .i64 _ _ n rfl rfl rfl rfl (by rw [hz2]; omega) (by unfold maxLen; omega) (Nat.le_refl _) ?_; intro w1 hown hg)
  have hb1 : Below w.heap.size w w1 := (Below.refl _ _).grown hg (Nat.le_refl _) (by simp)
  have hlt1 := (hown.lt w.heap.size rfl).2
  obtain ⟨cs, hcs⟩ : ∃ cs, cs = (madeCells (Value.agg #[.int .i64 0, .int .i64 0, .slice none 0 0]).cells (n * 3)).toList := ⟨_, rfl⟩
  rw [← hcs] at hown
  have hst : Laid RPrepared w1 (From w.heap.size w1.heap.size) 50 (some ⟨w.heap.size, 0, none⟩) n n xs cs (fun _ _ => False) 0 := Laid.start hz (by omega) (owns_mono hown (Nat.zero_le _)) (fun b hb => hown.lt b hb) _
  clear hcs hown hg
  go_loopw [4] (fun i wr => ∃ (k : Nat) (cells : List Value) (G : Nat → Nat → Prop), k ≤ n ∧ i = .int .i64 k ∧ Laid RPrepared wr (From w.heap.size wr.heap.size) 50 (some ⟨w.heap.size, 0, none⟩) n n xs cells G k ∧ w.heap.size < wr.heap.size ∧ Below w.heap.size w wr) (fun i _ => n - (intOf i).toNat)
  case atStart => exact ⟨0, cs, _, Nat.zero_le _, rfl, hst, hlt1, hb1⟩
  case round =>
    clear hst hb1 hlt1 cs
    obtain ⟨k, cells, G, hk, rfl, ho, hzr, hbw⟩ := hrel
    by_cases hlt : k < n
    · obtain ⟨b, off, rfl, _, hc⟩ := RPrepared.row (AtSl.below ha hbw) (by omega)
      obtain ⟨⟨zi0, zi1, x2⟩, hx⟩ : ∃ x, xs[k]? = some x := ⟨_, List.getElem?_eq_getElem (by omega)⟩
      obtain ⟨a2, n2, c2, e0, e1, e2, ⟨hv2, hu2, hw2, _⟩⟩ := hc k _ hx
      have hsm := smallPrepared hv2 (hs k _ hx)
      have hki : (k : Int) < (n : Int) := by omega
      have HO := Hid.mk ho
      have HX := Hid.mk hx
      have HC := Hid.mk (toPrepared_rep a2 n2 c2 zi0 zi1 x2 wr hv2 hsm hw2)
      clear hc ha ho hx hs hsm hv2 hw2
      go_wp2_with fail
      refine HC.out.mono ?_
      rintro e w2 ⟨g2, rfl, ho2, hb2⟩
      have hput := HO.out.put hlt (fun b hb => hb.2) hb2 HX.out ho2 (fun b hb => hb.1)
      have z2 := hb2.size
      have hput2 := hput.mono (F' := From w.heap.size w2.heap.size) (fun b hb => by rcases hb with hb | hb; exact ⟨hb.1, by have := hb.2; omega⟩; exact ⟨by have := hb.1; omega, hb.2⟩)
      have HP : Hid (Laid RPrepared (((w2.setCell ⟨w.heap.size, k * 3, none⟩ (.int .i64 zi0)).setCell ⟨w.heap.size, k * 3 + 1, none⟩ (.int .i64 zi1)).setCell ⟨w.heap.size, k * 3 + 2, none⟩ (.slice (some ⟨g2, 0, none⟩) n2 n2)) (From w.heap.size w2.heap.size) 50 (some ⟨w.heap.size, 0, none⟩) n n xs _ _ (k + 1)) := hput2
      have hout := (HO.out.below hb2).outer
      have hln := hout.1
      have hln : cells.length = n * 3 := hln
      obtain ⟨v0, hv0⟩ : ∃ u, cells[k * 3]? = some u := ⟨_, List.getElem?_eq_getElem (by omega)⟩
      have q0 : w2.cell? ⟨w.heap.size, k * 3, none⟩ = some v0 := (hout.cellAt _ (show k * 3 < n * 3 by omega)).trans hv0
      have f0 : w2.frozen? ⟨w.heap.size, k * 3, none⟩ = false := hout.frozenAt _
      clear hv0
      obtain ⟨v1, hv1⟩ : ∃ u, cells[k * 3 + 1]? = some u := ⟨_, List.getElem?_eq_getElem (by omega)⟩
      have q1 : w2.cell? ⟨w.heap.size, k * 3 + 1, none⟩ = some v1 := (hout.cellAt _ (show k * 3 + 1 < n * 3 by omega)).trans hv1
      have f1 : w2.frozen? ⟨w.heap.size, k * 3 + 1, none⟩ = false := hout.frozenAt _
      clear hv1
      obtain ⟨v2, hv2⟩ : ∃ u, cells[k * 3 + 2]? = some u := ⟨_, List.getElem?_eq_getElem (by omega)⟩
      have q2 : w2.cell? ⟨w.heap.size, k * 3 + 2, none⟩ = some v2 := (hout.cellAt _ (show k * 3 + 2 < n * 3 by omega)).trans hv2
      have f2 : w2.frozen? ⟨w.heap.size, k * 3 + 2, none⟩ = false := hout.frozenAt _
      clear hv2
      have HB : Hid (Below w.heap.size w (((w2.setCell ⟨w.heap.size, k * 3, none⟩ (.int .i64 zi0)).setCell ⟨w.heap.size, k * 3 + 1, none⟩ (.int .i64 zi1)).setCell ⟨w.heap.size, k * 3 + 2, none⟩ (.slice (some ⟨g2, 0, none⟩) n2 n2))) := ((((hbw.trans (hb2.mono hbw.size)).setCell (Nat.le_refl _) _).setCell (Nat.le_refl _) _).setCell (Nat.le_refl _) _)
      clear hput hput2 hout hln hb2 hbw ho2 HC e0 e1 e2
      go_wp2
      go_roundw
      case rel => exact ⟨k + 1, _, _, by omega, by go_num, by simpa only [World.setCell, Array.size_modify] using HP.out, by simp [World.setCell]; omega, HB.out⟩
      case measure => simp [intOf]; omega
    · obtain rfl : k = n := by omega
      go_wp2
      go_ret
      exact ⟨_, rfl, ⟨_, _, _, _, _, rfl, ho⟩, hbw⟩

end Go.Proofs.Ytecaaekilbdgdaa
