/- Contracts of the laws' helpers over weighted rows: szWeighted, szWeightedS, szTable, toWeighted, toWeightedS, toTable. -/
import Derived.Test.YtpnaoahlfhbbmaaRowH
import Derived.Test.YtpnaoahlfhbbmaaGroundT
namespace Go.Proofs.Ytpnaoahlfhbbmaa
open Go.RowKit

theorem szWeighted_any (a : Option Addr) (n c : Nat) (x l : Int) (w : World) (hn : n ≤ 9223372036854775807) (h0 : 0 ≤ l) (h1 : l ≤ 1048576) :
    Calls Try.prog 43 #[.agg #[.slice a n c, .int .i64 x], .int .i64 l] w fun e w' => e = .returned (.int .i64 (if l < n then -1 else l - n)) ∧ Below w.heap.size w w' := by
  by_cases h : l < n
  · go_enter Try.func43, Try.ntmps43
    go_wp2_with fail
    refine (szRow_any _ _ _ _ _ hn h0 h1).mono ?_
    rintro e w' ⟨rfl, hb⟩
    rw [if_pos h]
    go_wp2
    go_ret
    exact ⟨by simp, ((Below.refl _ _).alloc (Nat.le_refl _) _).trans (hb.mono (by simp))⟩
  · have h' : ¬ l - (n : Int) < 0 := by omega
    go_enter Try.func43, Try.ntmps43
    go_wp2_with fail
    refine (szRow_any _ _ _ _ _ hn h0 h1).mono ?_
    rintro e w' ⟨rfl, hb⟩
    rw [if_neg (by omega)]
    go_wp2
    go_ret
    exact ⟨by simp, ((Below.refl _ _).alloc (Nat.le_refl _) _).trans (hb.mono (by simp))⟩

/-- What szWeightedS takes: a slot a row, and the rows' cells. -/
theorem wtot_cells (ts : List WRow) (k : Nat) (h : k ≤ ts.length) : ∃ s : Nat, wtot ts k = k + s := ⟨wtot ts k - k, by have := wtot_len ts k h; omega⟩

set_option maxHeartbeats 1000000 in
theorem szWeightedS_any (a : Option Addr) (n c : Nat) (ts : List WRow) (l : Int) (w : World) (hz : ts.length = n) (hn : n ≤ 9223372036854775807) (h0 : 0 ≤ l) (h1 : l ≤ 1048576) (ha : AtW w a ts) :
    Calls Try.prog 30 #[.slice a n c, .int .i64 l] w fun e w' => e = .returned (.int .i64 (leftOf l (wtot ts n))) ∧ Below w.heap.size w w' := by
  have hle := wtot_len ts n (by omega)
  by_cases hb : l < n
  · have h' : l - (n : Int) < 0 := by omega
    go_enter Try.func30, Try.ntmps30
    go_wp2
    go_ret
    exact ⟨ret_int (leftOf_no (by omega)).symm, Below.refl _ _⟩
  · have h' : ¬ l - (n : Int) < 0 := by omega
    by_cases hn0 : n = 0
    · subst hn0
      have ht : wtot ts 0 = 0 := rfl
      go_enter Try.func30, Try.ntmps30
      go_wp2
      refine wp_loop_rounds 1 ?_
      rw [rounds_succ]
      go_wp2
      go_ret
      exact ⟨ret_int (by rw [ht, leftOf_yes (by omega)]; omega), Below.refl _ _⟩
    · go_enter Try.func30, Try.ntmps30
      go_wp2
      go_loopw [1, 5] (fun q i wr => ∃ (k : Nat) (r : Int), k ≤ n ∧ i = .int .i64 k ∧ q = .int .i64 r ∧ 0 ≤ r ∧ r ≤ 1048576 ∧ r + wtot ts k - k = l - n ∧ Below w.heap.size w wr) (fun _ i _ => n - (intOf i).toNat)
      case atStart => exact ⟨0, l - n, Nat.zero_le _, rfl, rfl, by omega, by omega, by rw [wtot_zero]; omega, Below.refl _ _⟩
      case round =>
        obtain ⟨k, r, hk, rfl, rfl, hr0, hr1, hr, hbw⟩ := hrel
        by_cases hlt : k < n
        · obtain ⟨b, off, rfl, hc⟩ := (ha.below hbw).some (by omega)
          obtain ⟨a', c', hcx, hcw, hm, hat⟩ := hc k (by omega)
          have hts := wtot_succ ts k (by omega)
          have htm := wtot_mono ts (k + 1) n (by omega)
          have htl : n - (k + 1) ≤ wtot ts n - wtot ts (k + 1) := by
            have : ∀ d, k + 1 + d ≤ n → d ≤ wtot ts (k + 1 + d) - wtot ts (k + 1) ∧ wtot ts (k + 1) ≤ wtot ts (k + 1 + d) := by
              intro d
              induction d with
              | zero => intro _; simp
              | succ d ih => intro h; have := ih (by omega); rw [show k + 1 + (d + 1) = (k + 1 + d) + 1 from rfl, wtot_succ ts _ (by omega)]; omega
            have := this (n - (k + 1)) (by omega)
            rw [show k + 1 + (n - (k + 1)) = n by omega] at this
            omega
          obtain ⟨m, hmm⟩ : ∃ m, m = (wat ts k).1.length := ⟨_, rfl⟩
          rw [← hmm] at hcx hm hts
          obtain ⟨x, hxx⟩ : ∃ x, x = (wat ts k).2 := ⟨_, rfl⟩
          rw [← hxx] at hcw
          have HR := Hid.mk hr
          have HT := Hid.mk hts
          have HL := Hid.mk htl
          have hki : (k : Int) < (n : Int) := by omega
          clear hmm hxx hat hc hr hts ha htl
          by_cases hfit : r < m
          · go_wp2_with fail
            refine (szWeighted_any _ _ _ _ _ _ hm hr0 hr1).mono ?_
            rintro e w' ⟨rfl, hb'⟩
            rw [if_pos hfit]
            go_wp2
            go_ret
            exact ⟨ret_int (leftOf_no (by have := HR.out; have := HT.out; have := HL.out; omega)).symm, hbw.trans (hb'.mono hbw.size)⟩
          · have hd : ¬ r - (m : Int) < 0 := by omega
            go_wp2_with fail
            refine (szWeighted_any _ _ _ _ _ _ hm hr0 hr1).mono ?_
            rintro e w' ⟨rfl, hb'⟩
            rw [if_neg (by omega)]
            go_wp2
            go_roundw
            case rel => exact ⟨k + 1, r - m, by omega, by go_num, rfl, by omega, by omega, by have := HR.out; have := HT.out; omega, hbw.trans (hb'.mono hbw.size)⟩
            case measure => simp [intOf]; omega
        · obtain rfl : k = n := by omega
          have HR := Hid.mk hr
          clear hr
          go_wp2
          go_ret
          exact ⟨ret_int (by have := HR.out; rw [leftOf_yes (by omega)]; omega), hbw⟩

theorem szTable_any (a : Option Addr) (n c : Nat) (ts : List WRow) (p l : Int) (w : World) (hz : ts.length = n) (hn : n ≤ 9223372036854775807) (h0 : 0 ≤ l) (h1 : l ≤ 1048576) (ha : AtW w a ts) :
    Calls Try.prog 10 #[.agg #[.int .i64 p, .slice a n c], .int .i64 l] w fun e w' => e = .returned (.int .i64 (leftOf l (wtot ts n))) ∧ Below w.heap.size w w' := by
  have HA := ha.alloc (.cells #[.int .i64 p, .slice a n c] 29)
  clear ha
  by_cases h : l < wtot ts n
  · go_enter Try.func10, Try.ntmps10
    go_wp2_with fail
    refine (szWeightedS_any _ _ _ ts _ _ hz hn h0 h1 HA).mono ?_
    rintro e w' ⟨rfl, hb⟩
    rw [leftOf_no h]
    go_wp2
    go_ret
    exact ⟨ret_int (leftOf_no h).symm, ((Below.refl _ _).alloc (Nat.le_refl _) _).trans (hb.mono (by simp))⟩
  · have h' : ¬ l - (wtot ts n : Int) < 0 := by omega
    go_enter Try.func10, Try.ntmps10
    go_wp2_with fail
    refine (szWeightedS_any _ _ _ ts _ _ hz hn h0 h1 HA).mono ?_
    rintro e w' ⟨rfl, hb⟩
    rw [leftOf_yes (by omega)]
    go_wp2
    go_ret
    exact ⟨ret_int (leftOf_yes (by omega)).symm, ((Below.refl _ _).alloc (Nat.le_refl _) _).trans (hb.mono (by simp))⟩

theorem toWeighted_any (a : Option Addr) (n c : Nat) (zs : List Int) (x : Int) (w : World) (hz : zs.length = n) (hn : n ≤ 1048576) (ha : At w a zs) :
    Calls Try.prog 51 #[.agg #[.slice a n c, .int .i64 x]] w fun e w' => ∃ g, e = .returned (.agg #[.slice (some ⟨g, 0, none⟩) n n, .int .i64 x]) ∧
      w'.ownsRow w.heap.size 3 1 (.slice (some ⟨g, 0, none⟩) n n) n (zs.map (.int .i64)) ∧ Below w.heap.size w w' := by
  go_enter Try.func51, Try.ntmps51
  go_wp2_with fail
  refine (toRow_any _ _ _ zs _ hz hn ?_).mono ?_
  · exact ((ha.alloc _).alloc _).alloc _
  · rintro e w' ⟨g, rfl, hown, hb⟩
    obtain ⟨hc, hf⟩ := bcell hb
    have hz' : w.heap.size + 2 < w'.heap.size := by have := hb.size; simp at this; omega
    simp only [World.size_alloc] at hc hf
    go_wp2
    refine bodyPost_ret (v := .agg #[.slice (some ⟨g, 0, none⟩) n n, .int .i64 x]) (by simp [results, Try.results51, go_sem, hc]) rfl ⟨_, rfl, ?_, ?_⟩
    · simp only [World.size_alloc] at hown
      exact owns_mono (ownsRow_setCell_below (ownsRow_setCell_below (ownsRow_setCell_below (ownsRow_setCell_below hown (by simp) _) (by simp) _) (by simp) _) (by simp) _) (by omega)
    · exact ((((((((Below.refl _ _).alloc (Nat.le_refl _) _).alloc (by simp) _).alloc (by simp; omega) _).trans (hb.mono (by simp; omega))).setCell (by simp; omega) _).setCell (by simp; omega) _).setCell (by simp) _).setCell (by simp) _

theorem Try.infoW : (Try.prog.info? 71).map (fun i => (i.zero, i.size, i.bytes)) = some (some (.agg #[.slice none 0 0, .int .i64 0]), 2, 32) := by kernel_rfl

set_option maxHeartbeats 2000000 in
theorem toWeightedS_any (a : Option Addr) (n c : Nat) (ts : List WRow) (w : World) (hz : ts.length = n) (hn : n ≤ 1048576) (hs : ∀ i, i < n → (wat ts i).1.length ≤ 1048576) (ha : AtW w a ts) :
    Calls Try.prog 34 #[.slice a n c] w fun e w' => ∃ g cells, e = .returned (.slice (some ⟨g, 0, none⟩) n n) ∧ OwnW w' w.heap.size w'.heap.size 71 3 (some ⟨g, 0, none⟩) n n ts cells ∧ Below w.heap.size w w' := by
  obtain ⟨i0, hi, hz0, hz1, hz2⟩ := info_parts Try.infoW
  go_enter Try.func34, Try.ntmps34
  go_wp2_with (at_make; refine wpList_make_full _ rfl _ _ 34 rfl w.heap.size 71 i0 (.agg #[.slice none 0 0, .int .i64 0]) 2 Try.underlying34 hi hz0 hz1 .i64 .i64 _ _ n rfl rfl rfl rfl (by rw [hz2]; omega) (by unfold maxLen; omega) (Nat.le_refl _) ?_; intro w1 hown hg)
  have hb1 : Below w.heap.size w w1 := (Below.refl _ _).grown hg (Nat.le_refl _) (by simp)
  have hlt1 := (hown.lt w.heap.size rfl).2
  have hst : OwnWk w1 w.heap.size w1.heap.size 71 3 (some ⟨w.heap.size, 0, none⟩) n n ts _ 0 := OwnWk.start hz (Nat.le_refl _) hown (fun b hb => (hown.lt b hb).2)
  obtain ⟨cs, hcs⟩ : ∃ cs, cs = (madeCells (Value.agg #[.slice none 0 0, .int .i64 0]).cells (n * 2)).toList := ⟨_, rfl⟩
  rw [← hcs] at hst
  clear hcs hown hg
  go_loopw [4] (fun i wr => ∃ (k : Nat) (cells : List Value), k ≤ n ∧ i = .int .i64 k ∧ OwnWk wr w.heap.size wr.heap.size 71 3 (some ⟨w.heap.size, 0, none⟩) n n ts cells k ∧ w.heap.size < wr.heap.size ∧ Below w.heap.size w wr) (fun i _ => n - (intOf i).toNat)
  case atStart => exact ⟨0, cs, Nat.zero_le _, rfl, hst, hlt1, hb1⟩
  case round =>
    clear hst hb1 hlt1 cs
    obtain ⟨k, cells, hk, rfl, ho, hzr, hbw⟩ := hrel
    by_cases hlt : k < n
    · obtain ⟨b, off, rfl, hc⟩ := (ha.below hbw).some (by omega)
      obtain ⟨a', c', hcx, hcy, _, hat⟩ := hc k (by omega)
      have hsm := hs k (by omega)
      have hki : (k : Int) < (n : Int) := by omega
      have HO := Hid.mk ho
      obtain ⟨ys, hys⟩ : ∃ ys, ys = (wat ts k).1 := ⟨_, rfl⟩
      obtain ⟨x, hx⟩ : ∃ x, x = (wat ts k).2 := ⟨_, rfl⟩
      obtain ⟨m, hm⟩ : ∃ m, ys.length = m := ⟨_, rfl⟩
      rw [← hys, hm] at hcx hsm
      rw [← hys] at hat
      rw [← hx] at hcy
      have HYS := Hid.mk hys
      have HX := Hid.mk hx
      have HM := Hid.mk hm
      clear hys hm hx hc ha ho hs
      go_wp2_with fail
      refine (toWeighted_any a' _ c' ys _ _ HM.out hsm hat).mono ?_
      rintro e w2 ⟨g2, rfl, ho2, hb2⟩
      have hput := HO.out.put (m := m) (c' := m) (a' := some ⟨g2, 0, none⟩) hb2 hlt (by rw [← HYS.out]; exact HM.out) HX.out.symm (Nat.le_of_lt hzr) (by rw [← HYS.out]; exact ho2)
      have hout := (HO.out.below hb2).outer
      have hln := hout.1
      obtain ⟨u, hu⟩ : ∃ u, cells[k * 2]? = some u := ⟨_, List.getElem?_eq_getElem (by omega)⟩
      obtain ⟨u', hu'⟩ : ∃ u, cells[k * 2 + 1]? = some u := ⟨_, List.getElem?_eq_getElem (by omega)⟩
      have hco : w2.cell? ⟨w.heap.size, k * 2, none⟩ = some u := (hout.cellAt _ (by omega)).trans hu
      have hco' : w2.cell? ⟨w.heap.size, k * 2 + 1, none⟩ = some u' := (hout.cellAt _ (by omega)).trans hu'
      have hfo : w2.frozen? ⟨w.heap.size, k * 2, none⟩ = false := hout.frozenAt _
      have hfo' : w2.frozen? ⟨w.heap.size, k * 2 + 1, none⟩ = false := hout.frozenAt _
      have HP := Hid.mk hput
      have z2 := hb2.size
      have HB : Hid (Below w.heap.size w ((w2.setCell ⟨w.heap.size, k * 2, none⟩ (.slice (some ⟨g2, 0, none⟩) m m)).setCell ⟨w.heap.size, k * 2 + 1, none⟩ (.int .i64 x))) := ((hbw.trans (hb2.mono hbw.size)).setCell (Nat.le_refl _) _).setCell (Nat.le_refl _) _
      clear hput hout hln hu hu' hb2 hbw ho2 hcx hcy hat
      go_wp2
      go_roundw
      case rel => exact ⟨k + 1, _, by omega, by go_num, by simpa [World.setCell] using HP.out, by simp [World.setCell]; omega, HB.out⟩
      case measure => simp [intOf]; omega
    · obtain rfl : k = n := by omega
      go_wp2
      go_ret
      exact ⟨_, _, rfl, ho, hbw⟩

theorem toTable_any (a : Option Addr) (n c : Nat) (ts : List WRow) (p : Int) (w : World) (hz : ts.length = n) (hn : n ≤ 1048576) (hs : ∀ i, i < n → (wat ts i).1.length ≤ 1048576) (ha : AtW w a ts) :
    Calls Try.prog 12 #[.agg #[.int .i64 p, .slice a n c]] w fun e w' => ∃ g cells, e = .returned (.agg #[.int .i64 p, .slice (some ⟨g, 0, none⟩) n n]) ∧ OwnW w' w.heap.size w'.heap.size 71 3 (some ⟨g, 0, none⟩) n n ts cells ∧ Below w.heap.size w w' := by
  go_enter Try.func12, Try.ntmps12
  go_wp2_with fail
  refine (toWeightedS_any _ _ _ ts _ hz hn hs ?_).mono ?_
  · exact ((ha.alloc _).alloc _).alloc _
  · rintro e w' ⟨g, cells, rfl, hown, hb⟩
    obtain ⟨hc, hf⟩ := bcell hb
    have hz' : w.heap.size + 2 < w'.heap.size := by have := hb.size; simp at this; omega
    simp only [World.size_alloc] at hc hf
    go_wp2
    have ho := ((hown.setCell (a0 := ⟨w.heap.size + 1 + 1, 1, none⟩) (.inl (by simp)) (.slice (some ⟨g, 0, none⟩) n n)).setCell (a0 := ⟨w.heap.size + 1, 0, none⟩) (.inl (by simp)) (.int .i64 p)).setCell (a0 := ⟨w.heap.size + 1, 1, none⟩) (.inl (by simp)) (.slice (some ⟨g, 0, none⟩) n n)
    refine bodyPost_ret (v := .agg #[.int .i64 p, .slice (some ⟨g, 0, none⟩) n n]) (by simp [results, Try.results12, go_sem, hc]) rfl ⟨_, _, rfl, ho.widen (by simp; omega) (by simp [World.setCell]) (Nat.le_refl _), ?_⟩
    exact (((((((Below.refl _ _).alloc (Nat.le_refl _) _).alloc (by simp) _).alloc (by simp; omega) _).trans (hb.mono (by simp; omega))).setCell (by simp; omega) _).setCell (by simp) _).setCell (by simp) _

end Go.Proofs.Ytpnaoahlfhbbmaa
