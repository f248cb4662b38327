/- Contracts of impl.ReadRow and spec.ReadRow. -/
import Derived.Test.YtagijnfiiifppaaGoodRow
import Derived.Laws.BitsAllLaws
import Derived.Deep.AppendLies
namespace Go.Proofs.Ytagijnfiiifppaa
open Go.RowKit

theorem i64_or_nat (a b : Nat) (ha : a < 4294967296) (hb : b < 4294967296) : bits .or .i64 (a : Int) (b : Int) = ((a ||| b : Nat) : Int) := by
  have hx : a ||| b < 2 ^ 32 := Nat.or_lt_two_pow (by omega) (by omega)
  show IntKind.i64.wrap ((BitVec.ofInt 64 (a : Int) ||| BitVec.ofInt 64 (b : Int)).toNat : Int) = _
  rw [BitVec.toNat_or, ofInt_u64 a (by omega), ofInt_u64 b (by omega), IntKind.wrap_i64]
  omega

theorem or_cell (y0 y1 y2 : Nat) (h0 : y0 < 256) (h1 : y1 < 256) (h2 : y2 < 256) :
    bits .or .i64 (bits .or .i64 ((y0 : Int) * 65536) ((y1 : Int) * 256)) (y2 : Int) = (y0 : Int) * 65536 + (y1 : Int) * 256 + y2 := by
  have e1 : bits .or .i64 ((y0 : Int) * 65536) ((y1 : Int) * 256) = ((y0 * 65536 + y1 * 256 : Nat) : Int) := by
    have := i64_or_nat (y0 * 65536) (y1 * 256) (by omega) (by omega)
    rw [nat_join 16 (y0 * 65536) (y1 * 256) (by omega) (by omega)] at this
    simpa using this
  rw [e1, i64_or_nat _ _ (by omega) (by omega), nat_join 8 _ _ (by omega) (by omega)]
  omega

theorem str_at {P : Program} (t : TypeId) (s : ByteArray) (k y : Nat) (h : P.underlying t = some .string) (i : Int) (hk : k < s.size) (hi : i = k) (hy : (s[k]'hk).toNat = y) :
    ∀ w, (Instr.index t (.string s) (.int .i64 i)).run P w = .ok (.int .u8 (y : Int)) w := fun w => by
  subst hi
  rw [run_index_string w t s .i64 (k : Int) h, dif_pos ⟨by omega, by omega⟩]
  simp [hy]

set_option maxHeartbeats 1000000 in
theorem implReadRow_yes (s : ByteArray) (n : Nat) (w : World) (hs : s.size ≤ 1 + 3 * n) (hs' : 1 + 3 * n ≤ s.size) (h0 : (s[0]'(by omega)).toNat = n) :
    Calls Try.prog 16 #[.string s] w fun e w' => ∃ a m c, e = .returned (.tuple #[.agg #[.slice a m c], .bool (good (cellsTo s n))]) ∧ (goodOr (cellsTo s n)).length = m ∧ w'.ownsRow w.heap.size 3 1 (.slice a m c) m ((goodOr (cellsTo s n)).map (.int .i64)) ∧ Below w.heap.size w w' := by
  have hs1 : (s.size : Int) % 3 = 1 := by omega
  have hp : 0 < s.size := by omega
  have hn : n ≤ 255 := by have := (s[0]'(by omega)).toNat_lt; omega
  have hq : ((n : Int) != (s.size : Int) / 3) = false := by simp; omega
  obtain ⟨i0, hi, hz0, hz1, hz2⟩ := info_parts Try.infoInt
  have V0 : RowVar ((w.alloc (.cells #[.slice none 0 0] 25)).alloc (.cells #[.slice none 0 0] 25)) (w.heap.size + 1) 25 (w.heap.size + 1 + 1) 3 none 0 0 (cellsTo s 0) := RowVar.new (by simp) (by omega)
  go_enter Try.func16, Try.ntmps16
  go_wp2
  obtain ⟨W, hW⟩ : ∃ W, W = (w.alloc (.cells #[.slice none 0 0] 25)).alloc (.cells #[.slice none 0 0] 25) := ⟨_, rfl⟩
  rw [← hW] at V0
  rw [← hW]
  have B : Below w.heap.size w W := by rw [hW]; exact ((Below.refl _ _).alloc (Nat.le_refl _) _).alloc (by simp) _
  have c0 : W.cell? ⟨w.heap.size, 0, none⟩ = some (.slice none 0 0) := by rw [hW]; simp
  have c0f : W.frozen? ⟨w.heap.size, 0, none⟩ = false := by rw [hW]; simp
  have zW : w.heap.size + 1 + 1 ≤ W.heap.size := by rw [hW]; simp
  clear hW h0
  go_loopw [5] (fun i wr => ∃ (k : Nat) (a : Option Addr) (c : Nat), k ≤ n ∧ i = .int .i64 (1 + 3 * k : Nat) ∧ RowVar wr (w.heap.size + 1) 25 (w.heap.size + 1 + 1) 3 a k c (cellsTo s k) ∧ Below (w.heap.size + 1) W wr) (fun i _ => s.size - (intOf i).toNat)
  case atStart => exact ⟨0, none, 0, Nat.zero_le _, rfl, V0, Below.refl _ _⟩
  case round =>
    clear V0
    obtain ⟨k, a, c, hk, rfl, hv, hbw⟩ := hrel
    obtain ⟨p, hpk⟩ : ∃ p, p = 1 + 3 * k := ⟨_, rfl⟩
    rw [← hpk]
    by_cases hlt : k < n
    · have hb0 : p < s.size := by omega
      have hb1 : p + 1 < s.size := by omega
      have hb2 : p + 2 < s.size := by omega
      have x0 := byt_at s p hb0
      have x1 := byt_at s (p + 1) hb1
      have x2 := byt_at s (p + 2) hb2
      have l0 := byt_lt s p
      have l1 := byt_lt s (p + 1)
      have l2 := byt_lt s (p + 2)
      have HC : Hid (cellAt s k = (byt s p : Int) * 65536 + (byt s (p + 1) : Int) * 256 + (byt s (p + 2) : Int) - 100000) := by rw [hpk]; rfl
      have HP : Hid (p = 1 + 3 * k) := hpk
      generalize byt s p = y0 at x0 l0 HC
      generalize byt s (p + 1) = y1 at x1 l1 HC
      generalize byt s (p + 2) = y2 at x2 l2 HC
      have i0' : (p : Int) < (s.size : Int) := by omega
      have i1' : (p : Int) + 1 < (s.size : Int) := by omega
      have i2' : (p : Int) + 2 < (s.size : Int) := by omega
      have hp7 : p ≤ 800 := by omega
      have r0 := str_at (P := Try.prog) 9 s p y0 Try.underlying9 p hb0 rfl x0
      have r1 := str_at (P := Try.prog) 9 s (p + 1) y1 Try.underlying9 ((p : Int) + 1) hb1 (by omega) x1
      have r2 := str_at (P := Try.prog) 9 s (p + 2) y2 Try.underlying9 ((p : Int) + 2) hb2 (by omega) x2
      have o1 := or_cell y0 y1 y2 l0 l1 l2
      have hcr := hv.cell
      have hfr := hv.frozen
      clear hpk hs hs1 hq hs'
      go_wp2
      go_region
      have z1 := hbw.size
      go_wp2_with (at_builtin; refine wpList_append_lies _ rfl (.tmp 46) (.tmp 49) 23 rfl (w.heap.size + 1 + 1) 3 i0 (.int .i64 0) 1 8 Try.underlying23 hi hz0 hz1 hz2 rfl (by decide) _ _ _ rfl (hv.own.alloc _).drew ⟨wr.heap.size, 0, none⟩ 1 1 [.int .i64 ((y0 : Int) * 65536 + (y1 : Int) * 256 + y2 - 100000)] rfl rfl (news_at wr _ _) (by simp; rfl) (by decide) (by unfold maxLen; omega) (by omega) (by simp; omega) (wr.heap.size + 1) (by simp) ?_)
      intro g cap w1 hown1 hgrow' _ _
      have hgrow := grown_undrew hgrow'
      have hnew := hv.pushed hown1 hgrow
      have HB : Hid (Below (w.heap.size + 1) W (w1.setCell ⟨w.heap.size + 1, 0, none⟩ (.slice (some ⟨g, 0, none⟩) (k + 1) cap))) := hv.pushed_below hgrow hbw (Nat.le_refl _)
      obtain ⟨d1, d2, hv1⟩ := hnew
      rw [← HC.out, ← cellsTo_succ] at hv1
      have HV := Hid.mk hv1
      clear hv1 hown1 hgrow hgrow' hv hbw r0 r1 r2 x0 x1 x2 o1
      go_wp2
      go_roundw
      case rel => exact ⟨k + 1, _, _, by omega, by have := HP.out; go_num, HV.out, HB.out⟩
      case measure => simp [intOf]; omega
    · obtain rfl : k = n := by omega
      have hcr := hv.cell
      have q0 : wr.cell? ⟨w.heap.size, 0, none⟩ = some (.slice none 0 0) := (hbw.cell (by simp)).trans c0
      have f0 : wr.frozen? ⟨w.heap.size, 0, none⟩ = false := (hbw.frozen (by simp)).trans c0f
      have BW : Below w.heap.size w wr := B.trans (hbw.mono (by omega))
      have hex : ¬ (p : Int) < (s.size : Int) := by omega
      cases hg : good (cellsTo s k) with
      | false =>
        have HG := Hid.mk hg
        have HR : Hid (goodOr (cellsTo s k) = []) := by simp [Hid, goodOr, hg]
        clear hg hpk hs hs' hs1 hq hp zW B c0 hbw
        go_wp2_with fail
        refine (implGoodRow_any _ _ _ (cellsTo s k) _ (cellsTo_length s k) (by omega) (At.owned hv.own)).mono ?_
        rintro e w2 ⟨rfl, hb2⟩
        rw [HG.out]
        have q1 := cell_later hb2 q0
        have f1 := frozen_later hb2 q0 f0
        go_wp2
        refine bodyPost_ret (v := .tuple #[.agg #[.slice none 0 0], .bool false]) (by simp [results, Try.results16, go_sem, q1]) rfl ⟨none, 0, 0, by rw [HG.out], by rw [HR.out]; rfl, ?_, ?_⟩
        · rw [HR.out]; exact World.ownsRow_nil _ _ _ _
        · exact (BW.trans (hb2.mono BW.size)).setCell (by simp) _
      | true =>
        have HG := Hid.mk hg
        have HR : Hid (goodOr (cellsTo s k) = cellsTo s k) := by simp [Hid, goodOr, hg]
        clear hg hpk hs hs' hs1 hq hp zW B c0 hbw
        go_wp2_with fail
        refine (implGoodRow_any _ _ _ (cellsTo s k) _ (cellsTo_length s k) (by omega) (At.owned hv.own)).mono ?_
        rintro e w2 ⟨rfl, hb2⟩
        rw [HG.out]
        have q1 := cell_later hb2 q0
        have f1 := frozen_later hb2 q0 f0
        have q2 := cell_later hb2 hcr
        have hv2 := hv.below hb2
        go_wp2
        refine bodyPost_ret (v := .tuple #[.agg #[.slice a k c], .bool true]) (by simp [results, Try.results16, go_sem, q1]) rfl ⟨a, k, c, by rw [HG.out], by rw [HR.out]; exact cellsTo_length s k, ?_, ?_⟩
        · rw [HR.out]; exact owns_mono (ownsRow_setCell_below hv2.own (by simp; omega) _) (by omega)
        · exact (BW.trans (hb2.mono BW.size)).setCell (by simp) _

end Go.Proofs.Ytagijnfiiifppaa
