/- Contract of spec.ReadRow. -/
import Derived.Test.YtagijnfiiifppaaReadRow
import Derived.Deep.RegionLaw
namespace Go.Proofs.Ytagijnfiiifppaa
open Go.RowKit

set_option maxHeartbeats 4000000 in
theorem specReadRow_yes (s : ByteArray) (n : Nat) (w : World) (hs : s.size ≤ 1 + 3 * n) (hs' : 1 + 3 * n ≤ s.size) (h0 : (s[0]'(by omega)).toNat = n) :
    Calls Try.prog 18 #[.string s] w fun e w' => ∃ a m c, e = .returned (.tuple #[.agg #[.slice a m c], .bool (good (cellsTo s n))]) ∧ (goodOr (cellsTo s n)).length = m ∧ w'.ownsRow w.heap.size 3 1 (.slice a m c) m ((goodOr (cellsTo s n)).map (.int .i64)) ∧ Below w.heap.size w w' := by
  have hp : 0 < s.size := Nat.lt_of_lt_of_le (by omega) hs'
  have hn : n ≤ 255 := by rw [← h0]; have := (s[0]'hp).toNat_lt; omega
  have hq : ((s.size : Int) != 1 + 3 * (n : Int)) = false := by simp; omega
  have hq0 : ((s.size : Int) == 0) = false := beq_false_of_ne (by omega)
  obtain ⟨i0, hi, hz0, hz1, hz2⟩ := info_parts Try.infoInt
  have V0 : RowVar ((w.alloc (.cells #[.slice none 0 0] 25)).alloc (.cells #[.slice none 0 0] 25)) (w.heap.size + 1) 25 (w.heap.size + 1 + 1) 3 none 0 0 (cellsTo s 0) := RowVar.new (by simp) (by omega)
  go_enter Try.func18, Try.ntmps18
  go_wp2
  obtain ⟨W, hW⟩ : ∃ W, W = (w.alloc (.cells #[.slice none 0 0] 25)).alloc (.cells #[.slice none 0 0] 25) := ⟨_, rfl⟩
  rw [← hW] at V0
  rw [← hW]
  have B : Below w.heap.size w W := by rw [hW]; exact ((Below.refl _ _).alloc (Nat.le_refl _) _).alloc (by simp) _
  have c0 : W.cell? ⟨w.heap.size, 0, none⟩ = some (.slice none 0 0) := by rw [hW]; simp
  have c0f : W.frozen? ⟨w.heap.size, 0, none⟩ = false := by rw [hW]; simp
  have zW : w.heap.size + 1 + 1 ≤ W.heap.size := by rw [hW]; simp
  clear hW h0
  go_loopw [5] (fun i wr => ∃ (k : Nat) (a : Option Addr) (c : Nat), k ≤ n ∧ i = .int .i64 (1 + 3 * k : Nat) ∧ RowVar wr (w.heap.size + 1) 25 (w.heap.size + 1 + 1) 3 a k c (cellsTo s k) ∧ Below (w.heap.size + 1) W wr) (fun i _ => s.size - (intOf i).toNat)
  case atStart => exact ⟨0, none, 0, Nat.zero_le _, rfl, V0, Below.refl _ _⟩
  case round =>
    clear V0
    obtain ⟨k, a, c, hk, rfl, hv, hbw⟩ := hrel
    obtain ⟨p, hpk⟩ : ∃ p, p = 1 + 3 * k := ⟨_, rfl⟩
    rw [← hpk]
    by_cases hlt : k < n
    · have hb0 : p < s.size := by omega
      have hb1 : p + 1 < s.size := by omega
      have hb2 : p + 2 < s.size := by omega
      have x0 := byt_at s p hb0
      have x1 := byt_at s (p + 1) hb1
      have x2 := byt_at s (p + 2) hb2
      have l0 := byt_lt s p
      have l1 := byt_lt s (p + 1)
      have l2 := byt_lt s (p + 2)
      have HC : Hid (cellAt s k = (byt s p : Int) * 65536 + (byt s (p + 1) : Int) * 256 + (byt s (p + 2) : Int) - 100000) := by rw [hpk]; rfl
      have HP : Hid (p = 1 + 3 * k) := hpk
      generalize byt s p = y0 at x0 l0 HC
      generalize byt s (p + 1) = y1 at x1 l1 HC
      generalize byt s (p + 2) = y2 at x2 l2 HC
      have i0' : (p : Int) < (s.size : Int) := by omega
      have i1' : (p : Int) + 1 < (s.size : Int) := by omega
      have i2' : (p : Int) + 2 < (s.size : Int) := by omega
      have hp7 : p ≤ 800 := by omega
      have r0 := str_at (P := Try.prog) 9 s p y0 Try.underlying9 p hb0 rfl x0
      have r1 := str_at (P := Try.prog) 9 s (p + 1) y1 Try.underlying9 ((p : Int) + 1) hb1 (by omega) x1
      have r2 := str_at (P := Try.prog) 9 s (p + 2) y2 Try.underlying9 ((p : Int) + 2) hb2 (by omega) x2
      have hcr := hv.cell
      have hfr := hv.frozen
      clear hpk hs hq hs' hq0
      have z1 := hbw.size
      have zR : w.heap.size + 1 < wr.heap.size := World.block_lt_of_cell? _ _ hcr
      go_wp2
      have v1 : IntKind.i64.wrap ((p : Int) + 1) = (p : Int) + 1 := IntWalk.i64_in _ (by omega)
      have v2 : IntKind.i64.wrap ((p : Int) + 2) = (p : Int) + 2 := IntWalk.i64_in _ (by omega)
      have v3 : IntKind.i64.wrap (y0 : Int) = y0 := IntWalk.i64_in _ (by omega)
      have v4 : IntKind.i64.wrap (y1 : Int) = y1 := IntWalk.i64_in _ (by omega)
      have v5 : IntKind.i64.wrap (y2 : Int) = y2 := IntWalk.i64_in _ (by omega)
      have v6 : IntKind.i64.wrap ((y0 : Int) * 65536) = (y0 : Int) * 65536 := IntWalk.i64_in _ (by omega)
      have v7 : IntKind.i64.wrap ((y1 : Int) * 256) = (y1 : Int) * 256 := IntWalk.i64_in _ (by omega)
      have v8 : IntKind.i64.wrap ((y0 : Int) * 65536 + (y1 : Int) * 256) = (y0 : Int) * 65536 + (y1 : Int) * 256 := IntWalk.i64_in _ (by omega)
      have v9 : IntKind.i64.wrap ((y0 : Int) * 65536 + (y1 : Int) * 256 + y2) = (y0 : Int) * 65536 + (y1 : Int) * 256 + y2 := IntWalk.i64_in _ (by omega)
      have v10 : IntKind.i64.wrap ((y0 : Int) * 65536 + (y1 : Int) * 256 + y2 - 100000) = (y0 : Int) * 65536 + (y1 : Int) * 256 + y2 - 100000 := IntWalk.i64_in _ (by omega)
      have hown0 := (hv.own.alloc (.cells #[.int .i64 ((y0 : Int) * 65536 + (y1 : Int) * 256 + y2 - 100000)] 3)).drew
      have hnews0 := news_at wr #[.int .i64 ((y0 : Int) * 65536 + (y1 : Int) * 256 + y2 - 100000)] 3
      have HO := Hid.mk hown0
      have HN := Hid.mk hnews0
      clear hown0 hnews0
      clear x0 x1 x2 hp hb0 hb1 hb2
      go_region_law (refine step_append_lies _ rfl (.tmp 28) (.tmp 48) 23 rfl (w.heap.size + 1 + 1) 3 i0 (.int .i64 0) 1 8 Try.underlying23 hi hz0 hz1 hz2 rfl (by decide) (.slice a k c) k _ (by simp [Act.eval]) HO.out ⟨wr.heap.size, 0, none⟩ 1 1 [.int .i64 ((y0 : Int) * 65536 + (y1 : Int) * 256 + y2 - 100000)] (by simp [Act.eval]) rfl HN.out (by simp; rfl) (by decide) (by unfold maxLen; omega) (by omega) (by simp; omega) (wr.heap.size + 1) (by simp) ?_; intro g cap w1 hown1 hgrow' _ _; have hgrow := grown_undrew hgrow'; obtain ⟨d1, d2, hv1⟩ := hv.pushed hown1 hgrow)
      all_goals
        have HB : Hid (Below (w.heap.size + 1) W (w1.setCell ⟨w.heap.size + 1, 0, none⟩ (.slice (some ⟨g, 0, none⟩) (k + 1) cap))) := hv.pushed_below hgrow hbw (Nat.le_refl _)
        rw [← HC.out, ← cellsTo_succ] at hv1
        have HV := Hid.mk hv1
        clear hv1 hown1 hgrow hgrow' hv hbw r0 r1 r2 v1 v2 v3 v4 v5 v6 v7 v8 v9 v10 hcr hfr d1 d2 HO HN
        go_wp2
        go_roundw
        case rel => exact ⟨k + 1, _, _, by omega, by have := HP.out; go_num, HV.out, HB.out⟩
        case measure => simp [intOf]; omega
    · obtain rfl : k = n := by omega
      have hcr := hv.cell
      have q0 : wr.cell? ⟨w.heap.size, 0, none⟩ = some (.slice none 0 0) := (hbw.cell (by simp)).trans c0
      have f0 : wr.frozen? ⟨w.heap.size, 0, none⟩ = false := (hbw.frozen (by simp)).trans c0f
      have BW : Below w.heap.size w wr := B.trans (hbw.mono (by omega))
      have hex : ¬ (p : Int) < (s.size : Int) := by omega
      cases hg : good (cellsTo s k) with
      | false =>
        have HG := Hid.mk hg
        have HR : Hid (goodOr (cellsTo s k) = []) := by simp [Hid, goodOr, hg]
        clear hg hpk hs hs' hq hq0 hp zW B c0 hbw
        go_wp2_with fail
        refine (specGoodRow_any _ _ _ (cellsTo s k) _ (cellsTo_length s k) (by omega) (At.owned hv.own)).mono ?_
        rintro e w2 ⟨rfl, hb2⟩
        rw [HG.out]
        have q1 := cell_later hb2 q0
        have f1 := frozen_later hb2 q0 f0
        go_wp2
        refine bodyPost_ret (v := .tuple #[.agg #[.slice none 0 0], .bool false]) (by simp [results, Try.results18, go_sem, q1]) rfl ⟨none, 0, 0, by rw [HG.out], by rw [HR.out]; rfl, ?_, ?_⟩
        · rw [HR.out]; exact World.ownsRow_nil _ _ _ _
        · exact (BW.trans (hb2.mono BW.size)).setCell (by simp) _
      | true =>
        have HG := Hid.mk hg
        have HR : Hid (goodOr (cellsTo s k) = cellsTo s k) := by simp [Hid, goodOr, hg]
        clear hg hpk hs hs' hq hq0 hp zW B c0 hbw
        go_wp2_with fail
        refine (specGoodRow_any _ _ _ (cellsTo s k) _ (cellsTo_length s k) (by omega) (At.owned hv.own)).mono ?_
        rintro e w2 ⟨rfl, hb2⟩
        rw [HG.out]
        have q1 := cell_later hb2 q0
        have f1 := frozen_later hb2 q0 f0
        have q2 := cell_later hb2 hcr
        have hv2 := hv.below hb2
        go_wp2
        refine bodyPost_ret (v := .tuple #[.agg #[.slice a k c], .bool true]) (by simp [results, Try.results18, go_sem, q1]) rfl ⟨a, k, c, by rw [HG.out], by rw [HR.out]; exact cellsTo_length s k, ?_, ?_⟩
        · rw [HR.out]; exact owns_mono (ownsRow_setCell_below hv2.own (by simp; omega) _) (by omega)
        · exact (BW.trans (hb2.mono BW.size)).setCell (by simp) _

end Go.Proofs.Ytagijnfiiifppaa
