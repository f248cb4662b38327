/- Contracts of the laws' to of Proc. -/
import Derived.Test.YthfndafgllcelaaPrG
import Derived.Test.YthfndafgllcelaaRepD
import Derived.Test.YthfndafgllcelaaBlk
import Derived.Deep.CutBlock
namespace Go.Proofs.Ythfndafgllcelaa
open Go.RowKit

set_option maxRecDepth 100000 in
set_option maxHeartbeats 8000000 in
theorem toProc_rep (zi0 : Int) (zi1 : Int) (bo2 : Bool) (w : World) :
    Calls Try.prog 69 #[.agg #[.int .i64 zi0, .int .i64 zi1, .bool bo2]] w fun e w' => e = .returned (.agg #[.int .i64 zi0, .int .i64 zi1, .bool bo2]) ∧ RProc.Own w' (From w.heap.size w'.heap.size) [.int .i64 zi0, .int .i64 zi1, .bool bo2] (zi0, zi1, bo2) ∧ Below w.heap.size w w' := by
  go_enter Try.func69, Try.ntmps69
  go_wp2
  refine bodyPost_ret (v := .agg #[.int .i64 zi0, .int .i64 zi1, .bool bo2]) (by simp [results, Try.results69, go_sem]) rfl ⟨rfl, RProc.own_mk, ?_⟩
  exact (((Below.refl _ _).alloc (Nat.le_refl _) _).alloc (by simp) _).alloc (by simp; omega) _

theorem Try.infoProc : (Try.prog.info? 64).map (fun i => (i.zero, i.size, i.bytes)) = some (some (.agg #[.int .i64 0, .int .i64 0, .bool false]), 3, 24) := by kernel_rfl

set_option maxRecDepth 100000 in
set_option maxHeartbeats 8000000 in
theorem toProcS_rep (a : Option Addr) (n c : Nat) (xs : List TProc) (w : World) (hz : xs.length = n) (hn : n ≤ 1048576) (ha : AtSl RProc w a xs) :
    Calls Try.prog 48 #[.slice a n c] w fun e w' => ∃ g, e = .returned (.slice (some ⟨g, 0, none⟩) n n) ∧ RProcs.Own w' (From w.heap.size w'.heap.size) [.slice (some ⟨g, 0, none⟩) n n] xs ∧ Below w.heap.size w w' := by
  obtain ⟨i0, hi, hz0, hz1, hz2⟩ := info_parts Try.infoProc
  go_enter Try.func48, Try.ntmps48
  go_wp2_with (at_make; refine wpList_make_full _ rfl _ _ 23 rfl w.heap.size 64 i0 (.agg #[.int .i64 0, .int .i64 0, .bool false]) 3 Try.underlying23 hi hz0 hz1 .i64 .i64 _ _ n rfl rfl rfl rfl (by rw [hz2]; omega) (by unfold maxLen; omega) (Nat.le_refl _) ?_; intro w1 hown hg)
  have hb1 : Below w.heap.size w w1 := (Below.refl _ _).grown hg (Nat.le_refl _) (by simp)
  have hlt1 := (hown.lt w.heap.size rfl).2
  obtain ⟨cs, hcs⟩ : ∃ cs, cs = (madeCells (Value.agg #[.int .i64 0, .int .i64 0, .bool false]).cells (n * 3)).toList := ⟨_, rfl⟩
  rw [← hcs] at hown
  have hst : Laid RProc w1 (From w.heap.size w1.heap.size) 64 (some ⟨w.heap.size, 0, none⟩) n n xs cs (fun _ _ => False) 0 := Laid.start hz (by omega) (owns_mono hown (Nat.zero_le _)) (fun b hb => hown.lt b hb) _
  clear hcs hown hg
  go_loopw [4] (fun i wr => ∃ (k : Nat) (cells : List Value) (G : Nat → Nat → Prop), k ≤ n ∧ i = .int .i64 k ∧ Laid RProc wr (From w.heap.size wr.heap.size) 64 (some ⟨w.heap.size, 0, none⟩) n n xs cells G k ∧ w.heap.size < wr.heap.size ∧ Below w.heap.size w wr) (fun i _ => n - (intOf i).toNat)
  case atStart => exact ⟨0, cs, _, Nat.zero_le _, rfl, hst, hlt1, hb1⟩
  case round =>
    clear hst hb1 hlt1 cs
    obtain ⟨k, cells, G, hk, rfl, ho, hzr, hbw⟩ := hrel
    by_cases hlt : k < n
    · obtain ⟨b, off, rfl, _, hc⟩ := RProc.row (AtSl.below ha hbw) (by omega)
      obtain ⟨⟨zi0, zi1, bo2⟩, hx⟩ : ∃ x, xs[k]? = some x := ⟨_, List.getElem?_eq_getElem (by omega)⟩
      obtain ⟨e0, e1, e2, _⟩ := hc k _ hx
      have hki : (k : Int) < (n : Int) := by omega
      have HO := Hid.mk ho
      have HX := Hid.mk hx
      have HC := Hid.mk (toProc_rep  zi0 zi1 bo2  wr  )
      clear hc ha ho hx
      go_wp2_with fail
      refine HC.out.mono ?_
      rintro e w2 ⟨rfl, ho2, hb2⟩
      have hput := HO.out.put hlt (fun b hb => hb.2) hb2 HX.out ho2 (fun b hb => hb.1)
      have z2 := hb2.size
      have hput2 := hput.mono (F' := From w.heap.size w2.heap.size) (fun b hb => by rcases hb with hb | hb; exact ⟨hb.1, by have := hb.2; omega⟩; exact ⟨by have := hb.1; omega, hb.2⟩)
      have HP : Hid (Laid RProc (((w2.setCell ⟨w.heap.size, k * 3, none⟩ (.int .i64 zi0)).setCell ⟨w.heap.size, k * 3 + 1, none⟩ (.int .i64 zi1)).setCell ⟨w.heap.size, k * 3 + 2, none⟩ (.bool bo2)) (From w.heap.size w2.heap.size) 64 (some ⟨w.heap.size, 0, none⟩) n n xs _ _ (k + 1)) := hput2
      have hout := (HO.out.below hb2).outer
      have hln := hout.1
      have hln : cells.length = n * 3 := hln
      obtain ⟨v0, hv0⟩ : ∃ u, cells[k * 3]? = some u := ⟨_, List.getElem?_eq_getElem (by omega)⟩
      have q0 : w2.cell? ⟨w.heap.size, k * 3, none⟩ = some v0 := (hout.cellAt _ (show k * 3 < n * 3 by omega)).trans hv0
      have f0 : w2.frozen? ⟨w.heap.size, k * 3, none⟩ = false := hout.frozenAt _
      clear hv0
      obtain ⟨v1, hv1⟩ : ∃ u, cells[k * 3 + 1]? = some u := ⟨_, List.getElem?_eq_getElem (by omega)⟩
      have q1 : w2.cell? ⟨w.heap.size, k * 3 + 1, none⟩ = some v1 := (hout.cellAt _ (show k * 3 + 1 < n * 3 by omega)).trans hv1
      have f1 : w2.frozen? ⟨w.heap.size, k * 3 + 1, none⟩ = false := hout.frozenAt _
      clear hv1
      obtain ⟨v2, hv2⟩ : ∃ u, cells[k * 3 + 2]? = some u := ⟨_, List.getElem?_eq_getElem (by omega)⟩
      have q2 : w2.cell? ⟨w.heap.size, k * 3 + 2, none⟩ = some v2 := (hout.cellAt _ (show k * 3 + 2 < n * 3 by omega)).trans hv2
      have f2 : w2.frozen? ⟨w.heap.size, k * 3 + 2, none⟩ = false := hout.frozenAt _
      clear hv2
      have HB : Hid (Below w.heap.size w (((w2.setCell ⟨w.heap.size, k * 3, none⟩ (.int .i64 zi0)).setCell ⟨w.heap.size, k * 3 + 1, none⟩ (.int .i64 zi1)).setCell ⟨w.heap.size, k * 3 + 2, none⟩ (.bool bo2))) := ((((hbw.trans (hb2.mono hbw.size)).setCell (Nat.le_refl _) _).setCell (Nat.le_refl _) _).setCell (Nat.le_refl _) _)
      clear hput hput2 hout hln hb2 hbw ho2 HC e0 e1 e2
      go_wp2
      go_roundw
      case rel => exact ⟨k + 1, _, _, by omega, by go_num, by simpa only [World.setCell, Array.size_modify] using HP.out, by simp [World.setCell]; omega, HB.out⟩
      case measure => simp [intOf]; omega
    · obtain rfl : k = n := by omega
      go_wp2
      go_ret
      exact ⟨_, rfl, ⟨_, _, _, _, _, rfl, ho⟩, hbw⟩

end Go.Proofs.Ythfndafgllcelaa
