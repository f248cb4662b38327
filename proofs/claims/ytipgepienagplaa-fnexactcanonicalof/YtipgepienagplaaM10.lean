/- Several texts of one proof, in build order: TableH, Rows1, RngS, IterP, PlainR, Plain. -/
import Derived.Test.YtipgepienagplaaM9
import Derived.Test.YtipgepienagplaaM0
import Derived.Test.YtipgepienagplaaRows
import Derived.WalkKit
import Derived.OwnWalkIn
import Derived.TacticsInMore
import Derived.LoopNIn
import Derived.LoopIn
import Derived.OrdersIn

/- Contracts of the laws' helpers over weighted rows: szWeighted, szWeightedS, szTable, toWeighted, toWeightedS, toTable. -/
namespace Go.Proofs.Ytipgepienagplaa
open Go.RowKit

theorem szWeighted_any (a : Option Addr) (n c : Nat) (x l : Int) (w : World) (hn : n ≤ 9223372036854775807) (h0 : 0 ≤ l) (h1 : l ≤ 1048576) :
    Calls Try.prog 113 #[.agg #[.slice a n c, .int .i64 x], .int .i64 l] w fun e w' => e = .returned (.int .i64 (if l < n then -1 else l - n)) ∧ Below w.heap.size w w' := by
  by_cases h : l < n
  · go_enter Try.func113, Try.ntmps113
    go_wp2_with fail
    refine (szRow_any _ _ _ _ _ hn h0 h1).mono ?_
    rintro e w' ⟨rfl, hb⟩
    rw [if_pos h]
    go_wp2
    go_ret
    exact ⟨by simp, ((Below.refl _ _).alloc (Nat.le_refl _) _).trans (hb.mono (by simp))⟩
  · have h' : ¬ l - (n : Int) < 0 := by omega
    go_enter Try.func113, Try.ntmps113
    go_wp2_with fail
    refine (szRow_any _ _ _ _ _ hn h0 h1).mono ?_
    rintro e w' ⟨rfl, hb⟩
    rw [if_neg (by omega)]
    go_wp2
    go_ret
    exact ⟨by simp, ((Below.refl _ _).alloc (Nat.le_refl _) _).trans (hb.mono (by simp))⟩

/-- What szWeightedS takes: a slot a row, and the rows' cells. -/
theorem wtot_cells (ts : List WRow) (k : Nat) (h : k ≤ ts.length) : ∃ s : Nat, wtot ts k = k + s := ⟨wtot ts k - k, by have := wtot_len ts k h; omega⟩

set_option maxHeartbeats 1000000 in
theorem szWeightedS_any (a : Option Addr) (n c : Nat) (ts : List WRow) (l : Int) (w : World) (hz : ts.length = n) (hn : n ≤ 9223372036854775807) (h0 : 0 ≤ l) (h1 : l ≤ 1048576) (ha : AtW w a ts) :
    Calls Try.prog 74 #[.slice a n c, .int .i64 l] w fun e w' => e = .returned (.int .i64 (leftOf l (wtot ts n))) ∧ Below w.heap.size w w' := by
  have hle := wtot_len ts n (by omega)
  by_cases hb : l < n
  · have h' : l - (n : Int) < 0 := by omega
    go_enter Try.func74, Try.ntmps74
    go_wp2
    go_ret
    exact ⟨ret_int (leftOf_no (by omega)).symm, Below.refl _ _⟩
  · have h' : ¬ l - (n : Int) < 0 := by omega
    by_cases hn0 : n = 0
    · subst hn0
      have ht : wtot ts 0 = 0 := rfl
      go_enter Try.func74, Try.ntmps74
      go_wp2
      refine wp_loop_rounds 1 ?_
      rw [rounds_succ]
      go_wp2
      go_ret
      exact ⟨ret_int (by rw [ht, leftOf_yes (by omega)]; omega), Below.refl _ _⟩
    · go_enter Try.func74, Try.ntmps74
      go_wp2
      go_loopw [1, 5] (fun q i wr => ∃ (k : Nat) (r : Int), k ≤ n ∧ i = .int .i64 k ∧ q = .int .i64 r ∧ 0 ≤ r ∧ r ≤ 1048576 ∧ r + wtot ts k - k = l - n ∧ Below w.heap.size w wr) (fun _ i _ => n - (intOf i).toNat)
      case atStart => exact ⟨0, l - n, Nat.zero_le _, rfl, rfl, by omega, by omega, by rw [wtot_zero]; omega, Below.refl _ _⟩
      case round =>
        obtain ⟨k, r, hk, rfl, rfl, hr0, hr1, hr, hbw⟩ := hrel
        by_cases hlt : k < n
        · obtain ⟨b, off, rfl, hc⟩ := (ha.below hbw).some (by omega)
          obtain ⟨a', c', hcx, hcw, hm, hat⟩ := hc k (by omega)
          have hts := wtot_succ ts k (by omega)
          have htm := wtot_mono ts (k + 1) n (by omega)
          have htl : n - (k + 1) ≤ wtot ts n - wtot ts (k + 1) := by
            have : ∀ d, k + 1 + d ≤ n → d ≤ wtot ts (k + 1 + d) - wtot ts (k + 1) ∧ wtot ts (k + 1) ≤ wtot ts (k + 1 + d) := by
              intro d
              induction d with
              | zero => intro _; simp
              | succ d ih => intro h; have := ih (by omega); rw [show k + 1 + (d + 1) = (k + 1 + d) + 1 from rfl, wtot_succ ts _ (by omega)]; omega
            have := this (n - (k + 1)) (by omega)
            rw [show k + 1 + (n - (k + 1)) = n by omega] at this
            omega
          obtain ⟨m, hmm⟩ : ∃ m, m = (wat ts k).1.length := ⟨_, rfl⟩
          rw [← hmm] at hcx hm hts
          obtain ⟨x, hxx⟩ : ∃ x, x = (wat ts k).2 := ⟨_, rfl⟩
          rw [← hxx] at hcw
          have HR := Hid.mk hr
          have HT := Hid.mk hts
          have HL := Hid.mk htl
          have hki : (k : Int) < (n : Int) := by omega
          clear hmm hxx hat hc hr hts ha htl
          by_cases hfit : r < m
          · go_wp2_with fail
            refine (szWeighted_any _ _ _ _ _ _ hm hr0 hr1).mono ?_
            rintro e w' ⟨rfl, hb'⟩
            rw [if_pos hfit]
            go_wp2
            go_ret
            exact ⟨ret_int (leftOf_no (by have := HR.out; have := HT.out; have := HL.out; omega)).symm, hbw.trans (hb'.mono hbw.size)⟩
          · have hd : ¬ r - (m : Int) < 0 := by omega
            go_wp2_with fail
            refine (szWeighted_any _ _ _ _ _ _ hm hr0 hr1).mono ?_
            rintro e w' ⟨rfl, hb'⟩
            rw [if_neg (by omega)]
            go_wp2
            go_roundw
            case rel => exact ⟨k + 1, r - m, by omega, by go_num, rfl, by omega, by omega, by have := HR.out; have := HT.out; omega, hbw.trans (hb'.mono hbw.size)⟩
            case measure => simp [intOf]; omega
        · obtain rfl : k = n := by omega
          have HR := Hid.mk hr
          clear hr
          go_wp2
          go_ret
          exact ⟨ret_int (by have := HR.out; rw [leftOf_yes (by omega)]; omega), hbw⟩

theorem szTable_any (a : Option Addr) (n c : Nat) (ts : List WRow) (p l : Int) (w : World) (hz : ts.length = n) (hn : n ≤ 9223372036854775807) (h0 : 0 ≤ l) (h1 : l ≤ 1048576) (ha : AtW w a ts) :
    Calls Try.prog 32 #[.agg #[.int .i64 p, .slice a n c], .int .i64 l] w fun e w' => e = .returned (.int .i64 (leftOf l (wtot ts n))) ∧ Below w.heap.size w w' := by
  have HA := ha.alloc (.cells #[.int .i64 p, .slice a n c] 55)
  clear ha
  by_cases h : l < wtot ts n
  · go_enter Try.func32, Try.ntmps32
    go_wp2_with fail
    refine (szWeightedS_any _ _ _ ts _ _ hz hn h0 h1 HA).mono ?_
    rintro e w' ⟨rfl, hb⟩
    rw [leftOf_no h]
    go_wp2
    go_ret
    exact ⟨ret_int (leftOf_no h).symm, ((Below.refl _ _).alloc (Nat.le_refl _) _).trans (hb.mono (by simp))⟩
  · have h' : ¬ l - (wtot ts n : Int) < 0 := by omega
    go_enter Try.func32, Try.ntmps32
    go_wp2_with fail
    refine (szWeightedS_any _ _ _ ts _ _ hz hn h0 h1 HA).mono ?_
    rintro e w' ⟨rfl, hb⟩
    rw [leftOf_yes (by omega)]
    go_wp2
    go_ret
    exact ⟨ret_int (leftOf_yes (by omega)).symm, ((Below.refl _ _).alloc (Nat.le_refl _) _).trans (hb.mono (by simp))⟩

theorem toWeighted_any (a : Option Addr) (n c : Nat) (zs : List Int) (x : Int) (w : World) (hz : zs.length = n) (hn : n ≤ 1048576) (ha : At w a zs) :
    Calls Try.prog 116 #[.agg #[.slice a n c, .int .i64 x]] w fun e w' => ∃ g, e = .returned (.agg #[.slice (some ⟨g, 0, none⟩) n n, .int .i64 x]) ∧
      w'.ownsRow w.heap.size 3 1 (.slice (some ⟨g, 0, none⟩) n n) n (zs.map (.int .i64)) ∧ Below w.heap.size w w' := by
  go_enter Try.func116, Try.ntmps116
  go_wp2_with fail
  refine (toRow_any _ _ _ zs _ hz hn ?_).mono ?_
  · exact ((ha.alloc _).alloc _).alloc _
  · rintro e w' ⟨g, rfl, hown, hb⟩
    obtain ⟨hc, hf⟩ := bcell hb
    have hz' : w.heap.size + 2 < w'.heap.size := by have := hb.size; simp at this; omega
    simp only [World.size_alloc] at hc hf
    go_wp2
    refine bodyPost_ret (v := .agg #[.slice (some ⟨g, 0, none⟩) n n, .int .i64 x]) (by simp [results, Try.results116, go_sem, hc]) rfl ⟨_, rfl, ?_, ?_⟩
    · simp only [World.size_alloc] at hown
      exact owns_mono (ownsRow_setCell_below (ownsRow_setCell_below (ownsRow_setCell_below (ownsRow_setCell_below hown (by simp) _) (by simp) _) (by simp) _) (by simp) _) (by omega)
    · exact ((((((((Below.refl _ _).alloc (Nat.le_refl _) _).alloc (by simp) _).alloc (by simp; omega) _).trans (hb.mono (by simp; omega))).setCell (by simp; omega) _).setCell (by simp; omega) _).setCell (by simp) _).setCell (by simp) _

theorem Try.infoW : (Try.prog.info? 123).map (fun i => (i.zero, i.size, i.bytes)) = some (some (.agg #[.slice none 0 0, .int .i64 0]), 2, 32) := by kernel_rfl

set_option maxHeartbeats 2000000 in
theorem toWeightedS_any (a : Option Addr) (n c : Nat) (ts : List WRow) (w : World) (hz : ts.length = n) (hn : n ≤ 1048576) (hs : ∀ i, i < n → (wat ts i).1.length ≤ 1048576) (ha : AtW w a ts) :
    Calls Try.prog 78 #[.slice a n c] w fun e w' => ∃ g cells, e = .returned (.slice (some ⟨g, 0, none⟩) n n) ∧ OwnW w' w.heap.size w'.heap.size 123 3 (some ⟨g, 0, none⟩) n n ts cells ∧ Below w.heap.size w w' := by
  obtain ⟨i0, hi, hz0, hz1, hz2⟩ := info_parts Try.infoW
  go_enter Try.func78, Try.ntmps78
  go_wp2_with (at_make; refine wpList_make_full _ rfl _ _ 59 rfl w.heap.size 123 i0 (.agg #[.slice none 0 0, .int .i64 0]) 2 Try.underlying59 hi hz0 hz1 .i64 .i64 _ _ n rfl rfl rfl rfl (by rw [hz2]; omega) (by unfold maxLen; omega) (Nat.le_refl _) ?_; intro w1 hown hg)
  have hb1 : Below w.heap.size w w1 := (Below.refl _ _).grown hg (Nat.le_refl _) (by simp)
  have hlt1 := (hown.lt w.heap.size rfl).2
  have hst : OwnWk w1 w.heap.size w1.heap.size 123 3 (some ⟨w.heap.size, 0, none⟩) n n ts _ 0 := OwnWk.start hz (Nat.le_refl _) hown (fun b hb => (hown.lt b hb).2)
  obtain ⟨cs, hcs⟩ : ∃ cs, cs = (madeCells (Value.agg #[.slice none 0 0, .int .i64 0]).cells (n * 2)).toList := ⟨_, rfl⟩
  rw [← hcs] at hst
  clear hcs hown hg
  go_loopw [4] (fun i wr => ∃ (k : Nat) (cells : List Value), k ≤ n ∧ i = .int .i64 k ∧ OwnWk wr w.heap.size wr.heap.size 123 3 (some ⟨w.heap.size, 0, none⟩) n n ts cells k ∧ w.heap.size < wr.heap.size ∧ Below w.heap.size w wr) (fun i _ => n - (intOf i).toNat)
  case atStart => exact ⟨0, cs, Nat.zero_le _, rfl, hst, hlt1, hb1⟩
  case round =>
    clear hst hb1 hlt1 cs
    obtain ⟨k, cells, hk, rfl, ho, hzr, hbw⟩ := hrel
    by_cases hlt : k < n
    · obtain ⟨b, off, rfl, hc⟩ := (ha.below hbw).some (by omega)
      obtain ⟨a', c', hcx, hcy, _, hat⟩ := hc k (by omega)
      have hsm := hs k (by omega)
      have hki : (k : Int) < (n : Int) := by omega
      have HO := Hid.mk ho
      obtain ⟨ys, hys⟩ : ∃ ys, ys = (wat ts k).1 := ⟨_, rfl⟩
      obtain ⟨x, hx⟩ : ∃ x, x = (wat ts k).2 := ⟨_, rfl⟩
      obtain ⟨m, hm⟩ : ∃ m, ys.length = m := ⟨_, rfl⟩
      rw [← hys, hm] at hcx hsm
      rw [← hys] at hat
      rw [← hx] at hcy
      have HYS := Hid.mk hys
      have HX := Hid.mk hx
      have HM := Hid.mk hm
      clear hys hm hx hc ha ho hs
      go_wp2_with fail
      refine (toWeighted_any a' _ c' ys _ _ HM.out hsm hat).mono ?_
      rintro e w2 ⟨g2, rfl, ho2, hb2⟩
      have hput := HO.out.put (m := m) (c' := m) (a' := some ⟨g2, 0, none⟩) hb2 hlt (by rw [← HYS.out]; exact HM.out) HX.out.symm (Nat.le_of_lt hzr) (by rw [← HYS.out]; exact ho2)
      have hout := (HO.out.below hb2).outer
      have hln := hout.1
      obtain ⟨u, hu⟩ : ∃ u, cells[k * 2]? = some u := ⟨_, List.getElem?_eq_getElem (by omega)⟩
      obtain ⟨u', hu'⟩ : ∃ u, cells[k * 2 + 1]? = some u := ⟨_, List.getElem?_eq_getElem (by omega)⟩
      have hco : w2.cell? ⟨w.heap.size, k * 2, none⟩ = some u := (hout.cellAt _ (by omega)).trans hu
      have hco' : w2.cell? ⟨w.heap.size, k * 2 + 1, none⟩ = some u' := (hout.cellAt _ (by omega)).trans hu'
      have hfo : w2.frozen? ⟨w.heap.size, k * 2, none⟩ = false := hout.frozenAt _
      have hfo' : w2.frozen? ⟨w.heap.size, k * 2 + 1, none⟩ = false := hout.frozenAt _
      have HP := Hid.mk hput
      have z2 := hb2.size
      have HB : Hid (Below w.heap.size w ((w2.setCell ⟨w.heap.size, k * 2, none⟩ (.slice (some ⟨g2, 0, none⟩) m m)).setCell ⟨w.heap.size, k * 2 + 1, none⟩ (.int .i64 x))) := ((hbw.trans (hb2.mono hbw.size)).setCell (Nat.le_refl _) _).setCell (Nat.le_refl _) _
      clear hput hout hln hu hu' hb2 hbw ho2 hcx hcy hat
      go_wp2
      go_roundw
      case rel => exact ⟨k + 1, _, by omega, by go_num, by simpa [World.setCell] using HP.out, by simp [World.setCell]; omega, HB.out⟩
      case measure => simp [intOf]; omega
    · obtain rfl : k = n := by omega
      go_wp2
      go_ret
      exact ⟨_, _, rfl, ho, hbw⟩

theorem toTable_any (a : Option Addr) (n c : Nat) (ts : List WRow) (p : Int) (w : World) (hz : ts.length = n) (hn : n ≤ 1048576) (hs : ∀ i, i < n → (wat ts i).1.length ≤ 1048576) (ha : AtW w a ts) :
    Calls Try.prog 35 #[.agg #[.int .i64 p, .slice a n c]] w fun e w' => ∃ g cells, e = .returned (.agg #[.int .i64 p, .slice (some ⟨g, 0, none⟩) n n]) ∧ OwnW w' w.heap.size w'.heap.size 123 3 (some ⟨g, 0, none⟩) n n ts cells ∧ Below w.heap.size w w' := by
  go_enter Try.func35, Try.ntmps35
  go_wp2_with fail
  refine (toWeightedS_any _ _ _ ts _ hz hn hs ?_).mono ?_
  · exact ((ha.alloc _).alloc _).alloc _
  · rintro e w' ⟨g, cells, rfl, hown, hb⟩
    obtain ⟨hc, hf⟩ := bcell hb
    have hz' : w.heap.size + 2 < w'.heap.size := by have := hb.size; simp at this; omega
    simp only [World.size_alloc] at hc hf
    go_wp2
    have ho := ((hown.setCell (a0 := ⟨w.heap.size + 1 + 1, 1, none⟩) (.inl (by simp)) (.slice (some ⟨g, 0, none⟩) n n)).setCell (a0 := ⟨w.heap.size + 1, 0, none⟩) (.inl (by simp)) (.int .i64 p)).setCell (a0 := ⟨w.heap.size + 1, 1, none⟩) (.inl (by simp)) (.slice (some ⟨g, 0, none⟩) n n)
    refine bodyPost_ret (v := .agg #[.int .i64 p, .slice (some ⟨g, 0, none⟩) n n]) (by simp [results, Try.results35, go_sem, hc]) rfl ⟨_, _, rfl, ho.widen (by simp; omega) (by simp [World.setCell]) (Nat.le_refl _), ?_⟩
    exact (((((((Below.refl _ _).alloc (Nat.le_refl _) _).alloc (by simp) _).alloc (by simp; omega) _).trans (hb.mono (by simp; omega))).setCell (by simp; omega) _).setCell (by simp) _).setCell (by simp) _

end Go.Proofs.Ytipgepienagplaa

/- Contracts of impl.rowsOf and of the function that it hands back. -/
namespace Go.Proofs.Ytipgepienagplaa
open Go.RowKit Go.Shelf

attribute [local go_sem] Oper.semAt_some

set_option maxRecDepth 100000 in
set_option maxHeartbeats 2000000 in
theorem rowsOf1_hands (T : Nat) (a : Option Addr) (n c : Nat) (ts : List WRow) (w : World) (hz : ts.length = n) (hn : n ≤ 1048576) (hT : w.cell? ⟨T, 1, none⟩ = some (.slice a n c)) (ha : AtM w a ts) :
    Hands Try.prog 149 #[.pointer (some ⟨T, 0, none⟩)] ts w := by
  intro n₀ l J W h1 h2 hb hJ hY h0
  refine callsIn_of_wp Try.func149 rfl trivial ?_
  simp only [Try.ntmps149, List.size_toArray, List.length_cons, List.length_nil, Nat.reduceAdd, Nat.reduceSub, Array.replicate_succ, Array.replicate_zero, List.push_toArray, List.append_toArray, List.nil_append, List.cons_append]
  have hTW := cell_later hb hT
  gi_wp2
  gi_loopw [8] (fun i wr => ∃ (k : Nat), k ≤ n ∧ i = .int .i64 k ∧ J k wr ∧ Apart n₀ W.heap.size W wr) (fun i _ => n - (intOf i).toNat)
  case atStart => exact ⟨0, Nat.zero_le _, rfl, h0, Apart.refl _ _ _⟩
  case round =>
    obtain ⟨k, hk, rfl, hj, hap⟩ := hrel
    by_cases hlt : k < n
    · have hbr : Below w.heap.size w wr := hb.trans (hap.below hb.size h1)
      obtain ⟨b, off, rfl, hc⟩ := ha.some (by omega)
      obtain ⟨q, dd, hcx0, hwx0, hm, hnil, hat0⟩ := hc k (by omega)
      have hfar : Far n₀ W.heap.size q (wat ts k).1 := hat0.far_low h1
      have hcx := cell_later hbr hcx0
      have hwx := cell_later hbr hwx0
      have hat := hat0.below hbr
      clear hcx0 hwx0 hat0
      have hki : (k : Int) < (n : Int) := by omega
      obtain ⟨V, hV⟩ : ∃ V, V = wr.alloc (.cells #[.slice q (wat ts k).1.length dd, .int .i64 (wat ts k).2] 123) := ⟨_, rfl⟩
      have hbV : Below wr.heap.size wr V := by rw [hV]; exact (Below.refl _ _).alloc (Nat.le_refl _) _
      have c3 : V.cell? ⟨wr.heap.size, 0, none⟩ = some (.slice q (wat ts k).1.length dd) := by rw [hV]; exact pair0 wr _ _ _
      have c4 : V.cell? ⟨wr.heap.size, 1, none⟩ = some (.int .i64 (wat ts k).2) := by rw [hV]; exact pair1 wr _ _ _
      have zV : W.heap.size ≤ V.heap.size := Nat.le_trans hap.size hbV.size
      obtain ⟨fn, tmps, assign, body, hy, hR⟩ := hY k V q _ dd (by omega) (hJ k wr V (hbV.mono hap.size) hj) zV rfl hnil (hat.below hbV) hfar
      have hapV : Apart n₀ W.heap.size W V := hap.trans ⟨hbV.os, hbV.tape, hbV.output, hbV.size, fun i hi _ => hbV.block i hi⟩
      generalize wat ts k = Y at *
      obtain ⟨ys, x⟩ := Y
      simp only at hcx hwx hm hat c3 c4 hy hV
      generalize ys.length = m at *
      subst hV
      gi_wp2
      refine ⟨rfl, hR.mono ?_⟩
      rintro e W3 ⟨rfl, hJ3, hap3⟩
      have HA3 := Hid.mk (hapV.trans hap3)
      have HJ3 := Hid.mk hJ3
      clear hJ3 hap3 hapV hR hy hcx hwx c3 c4 hat hap hj hc
      gi_wp2
      go_roundw
      case rel => exact ⟨k + 1, by omega, by go_num, HJ3.out, HA3.out⟩
      case measure => simp [intOf]; omega
    · obtain rfl : k = n := by omega
      gi_wp2
      go_end0
      rw [hz]
      exact ⟨⟨_, rfl⟩, hj, hap⟩

theorem rowsOf_any (a : Option Addr) (n c : Nat) (p : Int) (w : World) :
    Calls Try.prog 125 #[.agg #[.int .i64 p, .slice a n c]] w fun e w' => e = .returned (.func (.func 149) #[] #[.pointer (some ⟨w.heap.size, 0, none⟩)]) ∧ w' = w.alloc (.cells #[.int .i64 p, .slice a n c] 61) := by
  go_enter Try.func125, Try.ntmps125
  go_wp2
  go_ret
  exact ⟨rfl, rfl⟩

end Go.Proofs.Ytipgepienagplaa

/- A region that draws its order, within a round: as everywhere, where no operation of it is a 'defer'. -/
namespace Go.Proofs.Ytipgepienagplaa
open Go.RowKit Go.Shelf

section
variable {P : Program} {ops : Array Oper} {Q : Exit → Act → World → Prop} {md : Region.Mode}

theorem opIn_round {F : Fence} {n l i : Nat} {K : Act → World → Prop} {a : Act} {w : World} (hro : F.round = none) (hnd : ∀ (i : Nat) (o : Oper), ops[i]? = some o → ∀ c, o.op ≠ .defer c)
    (h : wpOpIn F n P ops Q i K a w) : wpOpIn (F.inRound l) n P ops Q i K a w := by
  unfold wpOpIn at *
  cases ho : ops[i]? with
  | none => simpa [ho] using h
  | some o =>
    simp only [ho] at h ⊢
    split
    · rename_i hw
      simp only [hw, if_true] at h
      obtain ⟨h1, h2⟩ := h
      refine ⟨h1, ?_⟩
      have e1 : Oper.semAt (F.inRound l).round a.eval o = execOp a.eval o := Oper.semAt_some l a.eval o (hnd i o ho)
      have e2 : Oper.semAt F.round a.eval o = execOp a.eval o := by rw [hro]; rfl
      rw [e1]
      rw [e2] at h2
      exact h2
    · rename_i hw
      simp only [hw] at h
      exact h

theorem anyIn_round {F : Fence} {n l : Nat} (hro : F.round = none) (hnd : ∀ (i : Nat) (o : Oper), ops[i]? = some o → ∀ c, o.op ≠ .defer c) : ∀ (fuel : Nat) (listed : Array Bool) (a : Act) (w : World),
    wpAnyIn F n P md ops Q fuel listed a w → wpAnyIn (F.inRound l) n P md ops Q fuel listed a w
  | 0, _, _, _, h => h
  | fuel + 1, _, _, _, h => ⟨h.1, fun i hi => opIn_round hro hnd (wpOpIn_mono (fun a' w' h' => anyIn_round hro hnd fuel _ a' w' h') (h.2 i hi))⟩

/-- No operation is a 'defer'. -/
def noDefer (ops : Array Oper) : Bool := ops.toList.all fun o => match o.op with | .defer _ => false | _ => true
theorem noDefer_spec (h : noDefer ops = true) : ∀ (i : Nat) (o : Oper), ops[i]? = some o → ∀ c, o.op ≠ .defer c := fun i o ho c e => by
  have := List.all_eq_true.1 h o (by rw [Array.mem_toList_iff]; exact Array.mem_of_getElem? ho)
  rw [e] at this
  cases this

theorem region_round {id l : Nat} {a : Act} {w : World} (hm : P.follows .mixedOrders = true) (hnd : noDefer ops = true)
    (h : wpAnyIn Fence.wide 0 P .any ops Q ops.size (Array.replicate ops.size false) a w.drew) : (Code.region id ops true).wpIn (Fence.wide.inRound l) 0 P Q a w :=
  wpIn_region_any hm (anyIn_round rfl (noDefer_spec hnd) _ _ _ _ h)
end
end Go.Proofs.Ytipgepienagplaa

/- Plain: what a function hands out that passes on some of another one's rows. -/
namespace Go.Proofs.Ytipgepienagplaa

/-- How many have been handed out when k rows have come. -/
def outW (g : WRow → Option WRow) (xs : List WRow) (k : Nat) : Nat := ((xs.take k).filterMap g).length
theorem outW_zero (g : WRow → Option WRow) (xs : List WRow) : outW g xs 0 = 0 := rfl
theorem outW_all (g : WRow → Option WRow) (xs : List WRow) : outW g xs xs.length = (xs.filterMap g).length := by simp [outW]
theorem outW_none {g : WRow → Option WRow} {xs : List WRow} {k : Nat} (h : k < xs.length) (hg : g (wat xs k) = none) : outW g xs (k + 1) = outW g xs k := by
  unfold outW
  rw [wtake_succ xs k h, List.filterMap_append, List.filterMap_cons, hg]
  simp
theorem outW_some {g : WRow → Option WRow} {xs : List WRow} {k : Nat} {v : WRow} (h : k < xs.length) (hg : g (wat xs k) = some v) :
    outW g xs (k + 1) = outW g xs k + 1 ∧ outW g xs k < (xs.filterMap g).length ∧ wat (xs.filterMap g) (outW g xs k) = v := by
  have e : xs.filterMap g = (xs.take k).filterMap g ++ v :: (xs.drop (k + 1)).filterMap g := by
    have h2 : xs = xs.take k ++ wat xs k :: xs.drop (k + 1) := by
      have h3 := (List.take_append_drop k xs).symm
      rw [List.drop_eq_getElem_cons h] at h3
      rw [show wat xs k = xs[k] by simp [wat, List.getD, h]]
      exact h3
    have h4 := congrArg (List.filterMap g) h2
    rw [List.filterMap_append, List.filterMap_cons, hg] at h4
    exact h4
  refine ⟨?_, ?_, ?_⟩
  · unfold outW
    rw [wtake_succ xs k h, List.filterMap_append, List.filterMap_cons, hg]
    simp
  · rw [e]; unfold outW; simp
  · rw [e]; unfold outW
    simp [wat, List.getD]

end Go.Proofs.Ytipgepienagplaa

/- Contracts of impl.plainRows and of the function that it hands back. -/
namespace Go.Proofs.Ytipgepienagplaa
open Go.RowKit Go.Shelf

attribute [local go_sem] Oper.semAt_some

/-- A row that is there, once. -/
def plainG (t : WRow) : Option WRow := if 0 < t.2 then some (t.1, 1) else none

/-- What a function that passes rows on holds while it does. -/
structure Passing (n₀ : Nat) (J : Nat → World → Prop) (W : World) (bx : Nat → Nat → Prop) (N : Nat) (g : WRow → Option WRow) (xs : List WRow) (v : Value) (t : TypeId) (k : Nat) (A : World) : Prop where
  told : J (outW g xs k) A
  box : A.heap[W.heap.size]? = some (.cells #[v] t (0, 0))
  low : Apart n₀ W.heap.size W A
  size : N ≤ A.heap.size

theorem Passing.keep {n₀ : Nat} {J : Nat → World → Prop} {W : World} {bx : Nat → Nat → Prop} {N : Nat} {g : WRow → Option WRow} {xs : List WRow} {v : Value} {t : TypeId} {k : Nat} {A B : World} (hJ : ∀ k A B, Below W.heap.size A B → J k A → J k B) (hN : W.heap.size < N)
    (h : Passing n₀ J W bx N g xs v t k A) (hb : Below N A B) : Passing n₀ J W bx N g xs v t k B := by
  have hs := h.size
  refine ⟨hJ _ _ _ (hb.mono (by omega)) h.told, (hb.block _ hN).trans h.box, ?_, Nat.le_trans h.size hb.size⟩
  exact ⟨hb.os.trans h.low.os, hb.tape.trans h.low.tape, hb.output.trans h.low.output, Nat.le_trans h.low.size hb.size, fun j hj hc => (hb.block j (by omega)).trans (h.low.block j hj hc)⟩

set_option maxRecDepth 100000 in
set_option maxHeartbeats 4000000 in
theorem plainRows1_hands (T gf : Nat) (lb : Array Value) (xs : List WRow) (w : World) (hT : w.cell? ⟨T, 0, none⟩ = some (.func (.func gf) #[] lb)) (eg : ∀ args w, (callFunc gf args).run Try.prog w = .ok (.enter gf args) w) (hH : Hands Try.prog gf lb xs w) :
    Hands Try.prog 148 #[.pointer (some ⟨T, 0, none⟩)] (xs.filterMap plainG) w := by
  intro n₀ l J W h1 h2 hb hJ hY h0
  refine callsIn_of_wp_marks Try.func148 rfl trivial ?_
  simp only [Try.ntmps148, List.size_toArray, List.length_cons, List.length_nil, Nat.reduceAdd, Nat.reduceSub, Array.replicate_succ, Array.replicate_zero, List.push_toArray, List.append_toArray, List.nil_append, List.cons_append]
  obtain ⟨W0, hW0⟩ : ∃ W0, W0 = W.alloc (.cells #[.func (.yield l) #[] #[]] 187) := ⟨_, rfl⟩
  have hbW : Below W.heap.size W W0 := by rw [hW0]; exact (Below.refl _ _).alloc (Nat.le_refl _) _
  have z0 : W0.heap.size = W.heap.size + 1 := by rw [hW0]; simp
  have hTW := cell_later hb hT
  have hTL : (W.alloc (.cells #[.func (.yield l) #[] #[]] 187)).cell? ⟨T, 0, none⟩ = some (.func (.func gf) #[] lb) := cell_later ((Below.refl _ _).alloc (Nat.le_refl _) _) hTW
  have I0 : Passing n₀ J W (fun _ _ => True) W0.heap.size plainG xs (.func (.yield l) #[] #[]) 187 0 W0 := by
    refine ⟨hJ 0 W W0 hbW h0, ?_, ⟨hbW.os, hbW.tape, hbW.output, hbW.size, fun j hj _ => hbW.block j hj⟩, Nat.le_refl _⟩
    rw [hW0]; exact heap_alloc_new W _
  gi_wp2
  rw [← hW0]
  clear hW0 hTL
  refine range_hands (gf := gf) (lb := lb) rfl eg hH (hb.trans (hbW.mono hb.size)) n₀ h1 (by omega) _ (fun k A B hB h => h.keep hJ (by omega) hB) I0 ?round ?done
  case round =>
    intro r k W1 b n c hr hkx hI hsz hrec hln hnil hat hfar
    obtain ⟨Y, hYk⟩ : ∃ Y, Y = wat xs k := ⟨_, rfl⟩
    rw [← hYk] at hln hat hfar ⊢
    obtain ⟨ys, x⟩ := Y
    simp only at hln hat hfar
    gi_wp2
    refine ⟨(Below.refl _ _).alloc (Nat.le_refl _) _, fun W3 hT3 _ => ?_⟩
    obtain ⟨W2, hW2⟩ : ∃ W2, W2 = W1.alloc (.cells #[.slice b n c] 29) := ⟨_, rfl⟩
    have hb2 : Below W1.heap.size W1 W2 := by rw [hW2]; exact (Below.refl _ _).alloc (Nat.le_refl _) _
    have cr : W2.cell? ⟨W1.heap.size, 0, none⟩ = some (.slice b n c) := by rw [hW2]; simp
    rw [← hW2] at hT3
    clear hW2
    have hI3 := (hI.keep hJ (by omega) (hb2.mono hsz)).keep hJ (by omega) (hT3.below hr)
    have cr3 := hT3.cell cr
    have cy3 : W3.cell? ⟨W.heap.size, 0, none⟩ = some (.func (.yield l) #[] #[]) := by rw [cell_of_row W3 _ 0 _ _ (0, 0) hI3.box]; rfl
    have hat3 := hT3.at (hat.below hb2)
    clear hI hat cr hT3
    by_cases hx : 0 < x
    · have hgx : plainG (wat xs k) = some (ys, 1) := by rw [← hYk]; exact if_pos hx
      obtain ⟨o1, o2, o3⟩ := outW_some hkx hgx
      obtain ⟨fn, tmps, assign, body, hy, hR⟩ := hY (outW plainG xs k) W3 b n c o2 hI3.told (by have := hI3.size; omega) (by rw [o3]; exact hln) hnil (by rw [o3]; exact hat3) (by rw [o3]; exact hfar.mono (by omega))
      rw [o3] at hy
      simp only at hy
      have HI3 := Hid.mk hI3
      have HO1 := Hid.mk o1
      clear hI3 o1 o3 hgx hYk
      gi_wp2
      refine ⟨rfl, hR.mono ?_⟩
      rintro e W4 ⟨rfl, hJ4, hap4⟩
      have hI3 := HI3.out
      have hfin : Passing n₀ J W (fun _ _ => True) W0.heap.size plainG xs (.func (.yield l) #[] #[]) 187 (k + 1) W4 := by
        refine ⟨by rw [HO1.out]; exact hJ4, (hap4.block _ (by have := hI3.size; omega) (.inr (Nat.le_refl _))).trans hI3.box, hI3.low.trans hap4, Nat.le_trans hI3.size hap4.size⟩
      have hapf : Apart n₀ W0.heap.size W3 W4 := ⟨hap4.os, hap4.tape, hap4.output, hap4.size, fun j hj hc => hap4.block j hj (by omega)⟩
      rw [z0] at hfin hapf
      clear hI3 HI3 hJ4 hap4 hR hy
      gi_wp2
      done
    · have hgx : plainG (wat xs k) = none := by rw [← hYk]; exact if_neg hx
      have o1 := outW_none hkx hgx
      have hxx : x ≤ 0 := by omega
      have hfin : Passing n₀ J W (fun _ _ => True) W0.heap.size plainG xs (.func (.yield l) #[] #[]) 187 (k + 1) W3 := ⟨by rw [o1]; exact hI3.told, hI3.box, hI3.low, hI3.size⟩
      have hapf : Apart n₀ W0.heap.size W3 W3 := Apart.refl _ _ _
      rw [z0] at hfin hapf
      clear hI3 hgx hYk o1
      gi_wp2
      refine ⟨fun _ h => (by cases h), ?_⟩
      gi_wp2
      done
  case done =>
    intro D A hD hI hap hdef
    have hto := hI.told
    rw [outW_all] at hto
    have hDl : D < A.heap.size := (Array.getElem?_eq_some_iff.1 hdef).1
    have hJf := hJ _ A (A.putObj D (.deferred none)) ((Below.refl _ _).grown (grownBy_putObj' A D _) (by omega) (fun j hj => by cases hj; omega)) hto
    have hapf : Apart n₀ W.heap.size W (A.putObj D (.deferred none)) := ⟨hI.low.os, hI.low.tape, hI.low.output, by have := hI.low.size; simp; omega, fun j hj hc => (World.putObj_heap_other (by omega)).trans (hI.low.block j hj hc)⟩
    gi_wp2
    refine ⟨by simp, .inl ⟨_, _, rfl, run_takeDeferred hdef, ?_⟩⟩
    exact ⟨_, results_none rfl _ _ _, ⟨_, rfl⟩, hJf, hapf⟩

end Go.Proofs.Ytipgepienagplaa

/- Plain functions on lists of numbers: what the program's row functions answer. -/
namespace Go.Proofs.Ytipgepienagplaa

def inb (z : Int) : Bool := decide (-100000 ≤ z) && decide (z ≤ 100000)
/-- A good row's cells. -/
def good (zs : List Int) : Bool := decide (zs.length ≤ 6) && zs.all inb

theorem good_len {zs : List Int} (h : good zs = true) : zs.length ≤ 6 := by simp [good] at h; exact h.1
theorem good_cell {zs : List Int} (h : good zs = true) (k : Nat) (hk : k < zs.length) : -100000 ≤ zs.getD k 0 ∧ zs.getD k 0 ≤ 100000 := by
  simp [good, inb] at h
  have := h.2 (zs[k]) (List.getElem_mem hk)
  simpa [List.getD, hk] using this
theorem good_long {zs : List Int} (h : 6 < zs.length) : good zs = false := by simp [good]; omega
theorem not_good_cell {zs : List Int} (k : Nat) (hk : k < zs.length) (h : zs.getD k 0 < -100000 ∨ 100000 < zs.getD k 0) : good zs = false := by
  cases hg : good zs with
  | false => rfl
  | true => have := good_cell hg k hk; omega
theorem good_of {zs : List Int} (hl : zs.length ≤ 6) (h : ∀ k, k < zs.length → -100000 ≤ zs.getD k 0 ∧ zs.getD k 0 ≤ 100000) : good zs = true := by
  simp only [good, Bool.and_eq_true, decide_eq_true_eq, List.all_eq_true, inb]
  refine ⟨hl, fun x hx => ?_⟩
  obtain ⟨k, hk, rfl⟩ := List.getElem_of_mem hx
  simpa [List.getD, hk] using h k hk

/-- Cell by cell; the first unlike one decides; a row that ends there is less. -/
def cmp : List Int → List Int → Int
  | [], [] => 0
  | [], _ :: _ => -1
  | _ :: _, [] => 1
  | x :: xs, y :: ys => if x < y then -1 else if y < x then 1 else cmp xs ys

theorem cmp_drop (xs ys : List Int) (k : Nat) (h1 : k < xs.length) (h2 : k < ys.length) :
    cmp (xs.drop k) (ys.drop k) = if xs.getD k 0 < ys.getD k 0 then -1 else if ys.getD k 0 < xs.getD k 0 then 1 else cmp (xs.drop (k + 1)) (ys.drop (k + 1)) := by
  rw [List.drop_eq_getElem_cons h1, List.drop_eq_getElem_cons h2, cmp]
  simp [List.getD, h1, h2]

theorem cmp_end (xs ys : List Int) (k : Nat) (h : k = xs.length ∨ k = ys.length) (h1 : k ≤ xs.length) (h2 : k ≤ ys.length) :
    cmp (xs.drop k) (ys.drop k) = if xs.length < ys.length then -1 else if ys.length < xs.length then 1 else 0 := by
  rcases h with rfl | rfl
  · rw [List.drop_length]
    by_cases e : xs.length = ys.length
    · rw [List.drop_eq_nil_of_le (by omega), if_neg (by omega), if_neg (by omega)]; rfl
    · rw [List.drop_eq_getElem_cons (by omega), if_pos (by omega)]; rfl
  · rw [List.drop_length]
    by_cases e : xs.length = ys.length
    · rw [List.drop_eq_nil_of_le (by omega), if_neg (by omega), if_neg (by omega)]; rfl
    · rw [List.drop_eq_getElem_cons (by omega), if_neg (by omega), if_pos (by omega)]; rfl

theorem cmp_self (xs : List Int) : cmp xs xs = 0 := by
  induction xs with
  | nil => rfl
  | cons x xs ih => simp [cmp, ih]

def good2 (xs ys : List Int) : Bool := good xs && good ys
def cmpAns (xs ys : List Int) : Int := if good xs && good ys then cmp xs ys else 0

/-- A cell's three bytes. -/
def cellNums (z : Int) : List Int := [(z + 100000) / 65536, (z + 100000) / 256 % 256, (z + 100000) % 256]
def rowNumsTo (zs : List Int) (k : Nat) : List Int := (zs.length : Int) :: (zs.take k).flatMap cellNums
def rowNums (zs : List Int) : List Int := (zs.length : Int) :: zs.flatMap cellNums

theorem take_snocD (zs : List Int) (k : Nat) (h : k < zs.length) : zs.take (k + 1) = zs.take k ++ [zs.getD k 0] := by
  rw [List.take_succ_eq_append_getElem h]; simp [List.getD, h]
theorem rowNumsTo_succ (zs : List Int) (k : Nat) (h : k < zs.length) : rowNumsTo zs (k + 1) = rowNumsTo zs k ++ cellNums (zs.getD k 0) := by
  unfold rowNumsTo
  rw [take_snocD zs k h, List.flatMap_append]
  simp only [List.flatMap_cons, List.flatMap_nil, List.append_nil, List.cons_append]
theorem rowNumsTo_all (zs : List Int) : rowNumsTo zs zs.length = rowNums zs := by simp [rowNumsTo, rowNums]
theorem rowNumsTo_length (zs : List Int) (k : Nat) (h : k ≤ zs.length) : (rowNumsTo zs k).length = 1 + 3 * k := by
  induction k with
  | zero => simp [rowNumsTo]
  | succ k ih => rw [rowNumsTo_succ zs k (by omega), List.length_append, ih (by omega)]; simp [cellNums]; omega

/-- The row itself where it is good, else the empty one. -/
def goodOr (zs : List Int) : List Int := if good zs then zs else []

def byt (s : ByteArray) (k : Nat) : Nat := (s.data.toList.getD k 0).toNat
/-- The j-th cell that a row's bytes tell. -/
def cellAt (s : ByteArray) (j : Nat) : Int := (byt s (1 + 3 * j) : Int) * 65536 + (byt s (1 + 3 * j + 1) : Int) * 256 + (byt s (1 + 3 * j + 2) : Int) - 100000
def cellsTo (s : ByteArray) (k : Nat) : List Int := (List.range k).map (cellAt s)
theorem byt_lt (s : ByteArray) (k : Nat) : byt s k < 256 := (s.data.toList.getD k 0).toNat_lt
theorem byt_at (s : ByteArray) (k : Nat) (h : k < s.size) : (s[k]'h).toNat = byt s k := by
  have h' : k < s.data.size := h
  unfold byt
  rw [show s.data.toList.getD k 0 = s[k] from by simp only [List.getD, Array.getElem?_toList, Array.getElem?_eq_getElem h', Option.getD_some]; rfl]
theorem cellsTo_succ (s : ByteArray) (k : Nat) : cellsTo s (k + 1) = cellsTo s k ++ [cellAt s k] := by simp [cellsTo, List.range_succ]
theorem cellsTo_length (s : ByteArray) (k : Nat) : (cellsTo s k).length = k := by simp [cellsTo]

/-- A good row's cells raised above 0, and 0 behind the last one. -/
def raised (zs : List Int) : List Int := zs.map (· + 100001) ++ List.replicate (6 - zs.length) 0

theorem cmp_raised' (xs : List Int) : ∀ (ys : List Int) (a b : Nat), (∀ x ∈ xs, -100000 ≤ x) → (∀ y ∈ ys, -100000 ≤ y) → xs.length + a = ys.length + b →
    cmp (xs.map (· + 100001) ++ List.replicate a 0) (ys.map (· + 100001) ++ List.replicate b 0) = cmp xs ys := by
  induction xs with
  | nil =>
    intro ys a b _ hy hl
    cases ys with
    | nil => simp at hl; subst hl; simp [cmp_self, cmp]
    | cons y ys =>
      obtain ⟨a', rfl⟩ : ∃ a', a = a' + 1 := ⟨a - 1, by simp at hl; omega⟩
      have := hy y (by simp)
      simp [List.replicate_succ, cmp]
      omega
  | cons x xs ih =>
    intro ys a b hx hy hl
    have h0 := hx x (by simp)
    cases ys with
    | nil =>
      obtain ⟨b', rfl⟩ : ∃ b', b = b' + 1 := ⟨b - 1, by simp at hl; omega⟩
      simp only [List.map_cons, List.cons_append, List.map_nil, List.nil_append, List.replicate_succ, cmp]
      rw [if_neg (by omega), if_pos (by omega)]
    | cons y ys =>
      have h1 := hy y (by simp)
      simp only [List.map_cons, List.cons_append, cmp]
      rw [ih ys a b (fun z hz => hx z (by simp [hz])) (fun z hz => hy z (by simp [hz])) (by simp at hl; omega)]
      by_cases e1 : x < y
      · rw [if_pos (by omega), if_pos e1]
      · rw [if_neg (by omega), if_neg e1]
        by_cases e2 : y < x
        · rw [if_pos (by omega), if_pos e2]
        · rw [if_neg (by omega), if_neg e2]

theorem good_mem {zs : List Int} (h : good zs = true) : ∀ z ∈ zs, -100000 ≤ z ∧ z ≤ 100000 := by
  simp only [good, Bool.and_eq_true, List.all_eq_true, inb, decide_eq_true_eq] at h
  exact h.2

theorem cmp_raised {xs ys : List Int} (hx : good xs = true) (hy : good ys = true) : cmp (raised xs) (raised ys) = cmp xs ys := by
  have h1 := good_len hx
  have h2 := good_len hy
  exact cmp_raised' xs ys _ _ (fun z hz => (good_mem hx z hz).1) (fun z hz => (good_mem hy z hz).1) (by omega)

/-- The array while it is filled. -/
def rowTo (zs : List Int) (k : Nat) : List Int := (zs.take k).map (· + 100001) ++ List.replicate (6 - k) 0

theorem rowTo_length (zs : List Int) (k : Nat) (h : k ≤ zs.length) (h6 : k ≤ 6) : (rowTo zs k).length = 6 := by simp [rowTo]; omega

theorem rowTo_set (zs : List Int) (k : Nat) (h : k < zs.length) (h6 : k < 6) : (rowTo zs k).set k (zs.getD k 0 + 100001) = rowTo zs (k + 1) := by
  unfold rowTo
  rw [List.set_append_right _ _ (by simp; omega)]
  rw [show k - (List.map (· + 100001) (List.take k zs)).length = 0 by simp; omega]
  rw [show 6 - k = (6 - (k + 1)) + 1 by omega, List.replicate_succ, List.set_cons_zero]
  rw [List.take_succ_eq_append_getElem h, List.map_append, List.append_assoc]
  simp [List.getD, h]

theorem rowTo_all (zs : List Int) : rowTo zs zs.length = raised zs := by simp [rowTo, raised]

theorem raised_length {zs : List Int} (h : zs.length ≤ 6) : (raised zs).length = 6 := by simp [raised]; omega

end Go.Proofs.Ytipgepienagplaa
