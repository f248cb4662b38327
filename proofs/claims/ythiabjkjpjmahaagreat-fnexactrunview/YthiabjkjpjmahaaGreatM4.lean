/- Several texts of one proof, in build order: TableH, TableM, TableE. -/
import Derived.Test.YthiabjkjpjmahaaGreatM3
import Derived.Test.YthiabjkjpjmahaaGreatM0

/- Contracts of the laws' helpers over weighted rows: szWeighted, szWeightedS, szTable, toWeighted, toWeightedS, toTable. -/
namespace Go.Proofs.YthiabjkjpjmahaaGreat
open Go.RowKit

theorem szWeighted_any (a : Option Addr) (n c : Nat) (x l : Int) (w : World) (hn : n ≤ 9223372036854775807) (h0 : 0 ≤ l) (h1 : l ≤ 1048576) :
    Calls Tryz.prog 129 #[.agg #[.slice a n c, .int .i64 x], .int .i64 l] w fun e w' => e = .returned (.int .i64 (if l < n then -1 else l - n)) ∧ Below w.heap.size w w' := by
  by_cases h : l < n
  · go_enter Tryz.func129, Tryz.ntmps129
    go_wp2_with fail
    refine (szRow_any _ _ _ _ _ hn h0 h1).mono ?_
    rintro e w' ⟨rfl, hb⟩
    rw [if_pos h]
    go_wp2
    go_ret
    exact ⟨by simp, ((Below.refl _ _).alloc (Nat.le_refl _) _).trans (hb.mono (by simp))⟩
  · have h' : ¬ l - (n : Int) < 0 := by omega
    go_enter Tryz.func129, Tryz.ntmps129
    go_wp2_with fail
    refine (szRow_any _ _ _ _ _ hn h0 h1).mono ?_
    rintro e w' ⟨rfl, hb⟩
    rw [if_neg (by omega)]
    go_wp2
    go_ret
    exact ⟨by simp, ((Below.refl _ _).alloc (Nat.le_refl _) _).trans (hb.mono (by simp))⟩

set_option maxHeartbeats 1000000 in
theorem szWeightedS_any (a : Option Addr) (n c : Nat) (ts : List WRow) (l : Int) (w : World) (hz : ts.length = n) (hn : n ≤ 9223372036854775807) (h0 : 0 ≤ l) (h1 : l ≤ 1048576) (ha : AtW w a ts) :
    Calls Tryz.prog 91 #[.slice a n c, .int .i64 l] w fun e w' => e = .returned (.int .i64 (leftOf l (wtot ts n))) ∧ Below w.heap.size w w' := by
  have hle := wtot_len ts n (by omega)
  by_cases hb : l < n
  · have h' : l - (n : Int) < 0 := by omega
    go_enter Tryz.func91, Tryz.ntmps91
    go_wp2
    go_ret
    exact ⟨ret_int (leftOf_no (by omega)).symm, Below.refl _ _⟩
  · have h' : ¬ l - (n : Int) < 0 := by omega
    by_cases hn0 : n = 0
    · subst hn0
      have ht : wtot ts 0 = 0 := rfl
      go_enter Tryz.func91, Tryz.ntmps91
      go_wp2
      refine wp_loop_rounds 1 ?_
      rw [rounds_succ]
      go_wp2
      go_ret
      exact ⟨ret_int (by rw [ht, leftOf_yes (by omega)]; omega), Below.refl _ _⟩
    · go_enter Tryz.func91, Tryz.ntmps91
      go_wp2
      go_loopw [1, 5] (fun q i wr => ∃ (k : Nat) (r : Int), k ≤ n ∧ i = .int .i64 k ∧ q = .int .i64 r ∧ 0 ≤ r ∧ r ≤ 1048576 ∧ r + wtot ts k - k = l - n ∧ Below w.heap.size w wr) (fun _ i _ => n - (intOf i).toNat)
      case atStart => exact ⟨0, l - n, Nat.zero_le _, rfl, rfl, by omega, by omega, by rw [wtot_zero]; omega, Below.refl _ _⟩
      case round =>
        obtain ⟨k, r, hk, rfl, rfl, hr0, hr1, hr, hbw⟩ := hrel
        by_cases hlt : k < n
        · obtain ⟨b, off, rfl, hc⟩ := (ha.below hbw).some (by omega)
          obtain ⟨a', c', hcx, hcw, hm, hat⟩ := hc k (by omega)
          have hts := wtot_succ ts k (by omega)
          have htm := wtot_mono ts (k + 1) n (by omega)
          have htl : n - (k + 1) ≤ wtot ts n - wtot ts (k + 1) := by
            have : ∀ d, k + 1 + d ≤ n → d ≤ wtot ts (k + 1 + d) - wtot ts (k + 1) ∧ wtot ts (k + 1) ≤ wtot ts (k + 1 + d) := by
              intro d
              induction d with
              | zero => intro _; simp
              | succ d ih => intro h; have := ih (by omega); rw [show k + 1 + (d + 1) = (k + 1 + d) + 1 from rfl, wtot_succ ts _ (by omega)]; omega
            have := this (n - (k + 1)) (by omega)
            rw [show k + 1 + (n - (k + 1)) = n by omega] at this
            omega
          obtain ⟨m, hmm⟩ : ∃ m, m = (wat ts k).1.length := ⟨_, rfl⟩
          rw [← hmm] at hcx hm hts
          obtain ⟨x, hxx⟩ : ∃ x, x = (wat ts k).2 := ⟨_, rfl⟩
          rw [← hxx] at hcw
          have HR := Hid.mk hr
          have HT := Hid.mk hts
          have HL := Hid.mk htl
          have hki : (k : Int) < (n : Int) := by omega
          clear hmm hxx hat hc hr hts ha htl
          by_cases hfit : r < m
          · go_wp2_with fail
            refine (szWeighted_any _ _ _ _ _ _ hm hr0 hr1).mono ?_
            rintro e w' ⟨rfl, hb'⟩
            rw [if_pos hfit]
            go_wp2
            go_ret
            exact ⟨ret_int (leftOf_no (by have := HR.out; have := HT.out; have := HL.out; omega)).symm, hbw.trans (hb'.mono hbw.size)⟩
          · have hd : ¬ r - (m : Int) < 0 := by omega
            go_wp2_with fail
            refine (szWeighted_any _ _ _ _ _ _ hm hr0 hr1).mono ?_
            rintro e w' ⟨rfl, hb'⟩
            rw [if_neg (by omega)]
            go_wp2
            go_roundw
            case rel => exact ⟨k + 1, r - m, by omega, by go_num, rfl, by omega, by omega, by have := HR.out; have := HT.out; omega, hbw.trans (hb'.mono hbw.size)⟩
            case measure => simp [intOf]; omega
        · obtain rfl : k = n := by omega
          have HR := Hid.mk hr
          clear hr
          go_wp2
          go_ret
          exact ⟨ret_int (by have := HR.out; rw [leftOf_yes (by omega)]; omega), hbw⟩

theorem szTable_any (a : Option Addr) (n c : Nat) (ts : List WRow) (p l : Int) (w : World) (hz : ts.length = n) (hn : n ≤ 9223372036854775807) (h0 : 0 ≤ l) (h1 : l ≤ 1048576) (ha : AtW w a ts) :
    Calls Tryz.prog 50 #[.agg #[.int .i64 p, .slice a n c], .int .i64 l] w fun e w' => e = .returned (.int .i64 (leftOf l (wtot ts n))) ∧ Below w.heap.size w w' := by
  have HA := ha.alloc (.cells #[.int .i64 p, .slice a n c] 93)
  clear ha
  by_cases h : l < wtot ts n
  · go_enter Tryz.func50, Tryz.ntmps50
    go_wp2_with fail
    refine (szWeightedS_any _ _ _ ts _ _ hz hn h0 h1 HA).mono ?_
    rintro e w' ⟨rfl, hb⟩
    rw [leftOf_no h]
    go_wp2
    go_ret
    exact ⟨ret_int (leftOf_no h).symm, ((Below.refl _ _).alloc (Nat.le_refl _) _).trans (hb.mono (by simp))⟩
  · have h' : ¬ l - (wtot ts n : Int) < 0 := by omega
    go_enter Tryz.func50, Tryz.ntmps50
    go_wp2_with fail
    refine (szWeightedS_any _ _ _ ts _ _ hz hn h0 h1 HA).mono ?_
    rintro e w' ⟨rfl, hb⟩
    rw [leftOf_yes (by omega)]
    go_wp2
    go_ret
    exact ⟨ret_int (leftOf_yes (by omega)).symm, ((Below.refl _ _).alloc (Nat.le_refl _) _).trans (hb.mono (by simp))⟩

theorem toWeighted_any (a : Option Addr) (n c : Nat) (zs : List Int) (x : Int) (w : World) (hz : zs.length = n) (hn : n ≤ 1048576) (ha : At w a zs) :
    Calls Tryz.prog 132 #[.agg #[.slice a n c, .int .i64 x]] w fun e w' => ∃ g, e = .returned (.agg #[.slice (some ⟨g, 0, none⟩) n n, .int .i64 x]) ∧
      w'.ownsRow w.heap.size 3 1 (.slice (some ⟨g, 0, none⟩) n n) n (zs.map (.int .i64)) ∧ Below w.heap.size w w' := by
  go_enter Tryz.func132, Tryz.ntmps132
  go_wp2_with fail
  refine (toRow_any _ _ _ zs _ hz hn ?_).mono ?_
  · exact ((ha.alloc _).alloc _).alloc _
  · rintro e w' ⟨g, rfl, hown, hb⟩
    obtain ⟨hc, hf⟩ := bcell hb
    have hz' : w.heap.size + 2 < w'.heap.size := by have := hb.size; simp at this; omega
    simp only [World.size_alloc] at hc hf
    go_wp2
    refine bodyPost_ret (v := .agg #[.slice (some ⟨g, 0, none⟩) n n, .int .i64 x]) (by simp [results, Tryz.results132, go_sem, hc]) rfl ⟨_, rfl, ?_, ?_⟩
    · simp only [World.size_alloc] at hown
      exact owns_mono (ownsRow_setCell_below (ownsRow_setCell_below (ownsRow_setCell_below (ownsRow_setCell_below hown (by simp) _) (by simp) _) (by simp) _) (by simp) _) (by omega)
    · exact ((((((((Below.refl _ _).alloc (Nat.le_refl _) _).alloc (by simp) _).alloc (by simp; omega) _).trans (hb.mono (by simp; omega))).setCell (by simp; omega) _).setCell (by simp; omega) _).setCell (by simp) _).setCell (by simp) _

theorem Tryz.infoW : (Tryz.prog.info? 82).map (fun i => (i.zero, i.size, i.bytes)) = some (some (.agg #[.slice none 0 0, .int .i64 0]), 2, 32) := by kernel_rfl

set_option maxHeartbeats 2000000 in
theorem toWeightedS_any (a : Option Addr) (n c : Nat) (ts : List WRow) (w : World) (hz : ts.length = n) (hn : n ≤ 1048576) (hs : ∀ i, i < n → (wat ts i).1.length ≤ 1048576) (ha : AtW w a ts) :
    Calls Tryz.prog 93 #[.slice a n c] w fun e w' => ∃ g cells, e = .returned (.slice (some ⟨g, 0, none⟩) n n) ∧ OwnW w' w.heap.size w'.heap.size 82 3 (some ⟨g, 0, none⟩) n n ts cells ∧ Below w.heap.size w w' := by
  obtain ⟨i0, hi, hz0, hz1, hz2⟩ := info_parts Tryz.infoW
  go_enter Tryz.func93, Tryz.ntmps93
  go_wp2_with (at_make; refine wpList_make_full _ rfl _ _ 30 rfl w.heap.size 82 i0 (.agg #[.slice none 0 0, .int .i64 0]) 2 Tryz.underlying30 hi hz0 hz1 .i64 .i64 _ _ n rfl rfl rfl rfl (by rw [hz2]; omega) (by unfold maxLen; omega) (Nat.le_refl _) ?_; intro w1 hown hg)
  have hb1 : Below w.heap.size w w1 := (Below.refl _ _).grown hg (Nat.le_refl _) (by simp)
  have hlt1 := (hown.lt w.heap.size rfl).2
  have hst : OwnWk w1 w.heap.size w1.heap.size 82 3 (some ⟨w.heap.size, 0, none⟩) n n ts _ 0 := OwnWk.start hz (Nat.le_refl _) hown (fun b hb => (hown.lt b hb).2)
  obtain ⟨cs, hcs⟩ : ∃ cs, cs = (madeCells (Value.agg #[.slice none 0 0, .int .i64 0]).cells (n * 2)).toList := ⟨_, rfl⟩
  rw [← hcs] at hst
  clear hcs hown hg
  go_loopw [4] (fun i wr => ∃ (k : Nat) (cells : List Value), k ≤ n ∧ i = .int .i64 k ∧ OwnWk wr w.heap.size wr.heap.size 82 3 (some ⟨w.heap.size, 0, none⟩) n n ts cells k ∧ w.heap.size < wr.heap.size ∧ Below w.heap.size w wr) (fun i _ => n - (intOf i).toNat)
  case atStart => exact ⟨0, cs, Nat.zero_le _, rfl, hst, hlt1, hb1⟩
  case round =>
    clear hst hb1 hlt1 cs
    obtain ⟨k, cells, hk, rfl, ho, hzr, hbw⟩ := hrel
    by_cases hlt : k < n
    · obtain ⟨b, off, rfl, hc⟩ := (ha.below hbw).some (by omega)
      obtain ⟨a', c', hcx, hcy, _, hat⟩ := hc k (by omega)
      have hsm := hs k (by omega)
      have hki : (k : Int) < (n : Int) := by omega
      have HO := Hid.mk ho
      obtain ⟨ys, hys⟩ : ∃ ys, ys = (wat ts k).1 := ⟨_, rfl⟩
      obtain ⟨x, hx⟩ : ∃ x, x = (wat ts k).2 := ⟨_, rfl⟩
      obtain ⟨m, hm⟩ : ∃ m, ys.length = m := ⟨_, rfl⟩
      rw [← hys, hm] at hcx hsm
      rw [← hys] at hat
      rw [← hx] at hcy
      have HYS := Hid.mk hys
      have HX := Hid.mk hx
      have HM := Hid.mk hm
      clear hys hm hx hc ha ho hs
      go_wp2_with fail
      refine (toWeighted_any a' _ c' ys _ _ HM.out hsm hat).mono ?_
      rintro e w2 ⟨g2, rfl, ho2, hb2⟩
      have hput := HO.out.put (m := m) (c' := m) (a' := some ⟨g2, 0, none⟩) hb2 hlt (by rw [← HYS.out]; exact HM.out) HX.out.symm (Nat.le_of_lt hzr) (by rw [← HYS.out]; exact ho2)
      have hout := (HO.out.below hb2).outer
      have hln := hout.1
      obtain ⟨u, hu⟩ : ∃ u, cells[k * 2]? = some u := ⟨_, List.getElem?_eq_getElem (by omega)⟩
      obtain ⟨u', hu'⟩ : ∃ u, cells[k * 2 + 1]? = some u := ⟨_, List.getElem?_eq_getElem (by omega)⟩
      have hco : w2.cell? ⟨w.heap.size, k * 2, none⟩ = some u := (hout.cellAt _ (by omega)).trans hu
      have hco' : w2.cell? ⟨w.heap.size, k * 2 + 1, none⟩ = some u' := (hout.cellAt _ (by omega)).trans hu'
      have hfo : w2.frozen? ⟨w.heap.size, k * 2, none⟩ = false := hout.frozenAt _
      have hfo' : w2.frozen? ⟨w.heap.size, k * 2 + 1, none⟩ = false := hout.frozenAt _
      have HP := Hid.mk hput
      have z2 := hb2.size
      have HB : Hid (Below w.heap.size w ((w2.setCell ⟨w.heap.size, k * 2, none⟩ (.slice (some ⟨g2, 0, none⟩) m m)).setCell ⟨w.heap.size, k * 2 + 1, none⟩ (.int .i64 x))) := ((hbw.trans (hb2.mono hbw.size)).setCell (Nat.le_refl _) _).setCell (Nat.le_refl _) _
      clear hput hout hln hu hu' hb2 hbw ho2 hcx hcy hat
      go_wp2
      go_roundw
      case rel => exact ⟨k + 1, _, by omega, by go_num, by simpa [World.setCell] using HP.out, by simp [World.setCell]; omega, HB.out⟩
      case measure => simp [intOf]; omega
    · obtain rfl : k = n := by omega
      go_wp2
      go_ret
      exact ⟨_, _, rfl, ho, hbw⟩

theorem toTable_any (a : Option Addr) (n c : Nat) (ts : List WRow) (p : Int) (w : World) (hz : ts.length = n) (hn : n ≤ 1048576) (hs : ∀ i, i < n → (wat ts i).1.length ≤ 1048576) (ha : AtW w a ts) :
    Calls Tryz.prog 53 #[.agg #[.int .i64 p, .slice a n c]] w fun e w' => ∃ g cells, e = .returned (.agg #[.int .i64 p, .slice (some ⟨g, 0, none⟩) n n]) ∧ OwnW w' w.heap.size w'.heap.size 82 3 (some ⟨g, 0, none⟩) n n ts cells ∧ Below w.heap.size w w' := by
  go_enter Tryz.func53, Tryz.ntmps53
  go_wp2_with fail
  refine (toWeightedS_any _ _ _ ts _ hz hn hs ?_).mono ?_
  · exact ((ha.alloc _).alloc _).alloc _
  · rintro e w' ⟨g, cells, rfl, hown, hb⟩
    obtain ⟨hc, hf⟩ := bcell hb
    have hz' : w.heap.size + 2 < w'.heap.size := by have := hb.size; simp at this; omega
    simp only [World.size_alloc] at hc hf
    go_wp2
    have ho := ((hown.setCell (a0 := ⟨w.heap.size + 1 + 1, 1, none⟩) (.inl (by simp)) (.slice (some ⟨g, 0, none⟩) n n)).setCell (a0 := ⟨w.heap.size + 1, 0, none⟩) (.inl (by simp)) (.int .i64 p)).setCell (a0 := ⟨w.heap.size + 1, 1, none⟩) (.inl (by simp)) (.slice (some ⟨g, 0, none⟩) n n)
    refine bodyPost_ret (v := .agg #[.int .i64 p, .slice (some ⟨g, 0, none⟩) n n]) (by simp [results, Tryz.results53, go_sem, hc]) rfl ⟨_, _, rfl, ho.widen (by simp; omega) (by simp [World.setCell]) (Nat.le_refl _), ?_⟩
    exact (((((((Below.refl _ _).alloc (Nat.le_refl _) _).alloc (by simp) _).alloc (by simp; omega) _).trans (hb.mono (by simp; omega))).setCell (by simp; omega) _).setCell (by simp) _).setCell (by simp) _

end Go.Proofs.YthiabjkjpjmahaaGreat

/- Contracts of the laws' helpers that mark tables: markWeightedS, markTable, heldWeightedS, heldTable. -/
namespace Go.Proofs.YthiabjkjpjmahaaGreat
open Go.RowKit

/-- The first k rows as the laws mark them, the others as they were. -/
def mixW (m : Int) (ts : List WRow) (k : Nat) : List WRow := (List.range ts.length).map fun i => if i < k then (marks (m + wtot ts i) (wat ts i).1.length, m + wtot ts i + (wat ts i).1.length) else wat ts i
theorem mixW_length (m : Int) (ts : List WRow) (k : Nat) : (mixW m ts k).length = ts.length := by simp [mixW]
theorem mixW_at (m : Int) (ts : List WRow) (k i : Nat) (h : i < ts.length) : wat (mixW m ts k) i = if i < k then (marks (m + wtot ts i) (wat ts i).1.length, m + wtot ts i + (wat ts i).1.length) else wat ts i := by
  simp [mixW, h]
theorem mixW_zero (m : Int) (ts : List WRow) : mixW m ts 0 = ts := by
  apply List.ext_getElem?
  intro i
  by_cases h : i < ts.length
  · simp [mixW, h]
  · simp [mixW, h]
theorem mixW_all (m : Int) (ts : List WRow) : mixW m ts ts.length = markW m ts := by
  unfold mixW markW
  exact List.map_congr_left fun i hi => if_pos (List.mem_range.1 hi)
theorem mixW_len (m : Int) (ts : List WRow) (k i : Nat) (h : i < ts.length) : (wat (mixW m ts k) i).1.length = (wat ts i).1.length := by
  rw [mixW_at m ts k i h]
  by_cases e : i < k
  · rw [if_pos e]; exact marks_length _ _
  · rw [if_neg e]

theorem OwnWk.marked {w w2 : World} {lo hi : Nat} {te ti : TypeId} {g n c k l : Nat} {ts : List WRow} {cells : List Value} {m : Int} {a' : Option Addr} {c' : Nat} (h : OwnW w lo hi te ti (some ⟨g, 0, none⟩) n c (mixW m ts k) cells) (hz : ts.length = n) (hk : k < n)
    (hl : (wat ts k).1.length = l) (hcell : cells[k * 2]? = some (.slice a' l c')) (hrow : w2.ownsRow lo ti 1 (.slice a' l c') l ((marks (m + wtot ts k) l).map (.int .i64))) (hg : w.grownBy w2 (Value.slice a' l c').ownBlock) :
    OwnW (w2.setCell ⟨g, k * 2 + 1, none⟩ (.int .i64 (m + wtot ts k + l))) lo hi te ti (some ⟨g, 0, none⟩) n c (mixW m ts (k + 1)) (cells.set (k * 2 + 1) (.int .i64 (m + wtot ts k + l))) := by
  have hbk : blkW cells k = (Value.slice a' l c').ownBlock := blkW_of hcell
  have hl2 := h.outer.1
  have hgk : ∀ b, (Value.slice a' l c').ownBlock = some b → g ≠ b := fun b hb e => by
    have := (h.rowLt k hk b (by rw [hbk]; exact hb)).2
    simp [Value.ownBlock, e] at this
  have ho2 : w2.ownsRow lo te 2 (.slice (some ⟨g, 0, none⟩) n c) n cells := h.outer.kept hg (.inr (fun e => by
    have h1 : (Value.slice a' l c').ownBlock = some g := by rw [← e]; rfl
    exact hgk g h1 rfl))
  have hset : ∀ i, (cells.set (k * 2 + 1) (.int .i64 (m + wtot ts k + l)))[i * 2]? = cells[i * 2]? := fun i => by rw [List.getElem?_set_ne (by omega)]
  have hbs : ∀ i, blkW (cells.set (k * 2 + 1) (.int .i64 (m + wtot ts k + l))) i = blkW cells i := fun i => by simp only [blkW, List.getD, hset i]
  have hgs : w2.grownBy (w2.setCell ⟨g, k * 2 + 1, none⟩ (.int .i64 (m + wtot ts k + l))) (some g) :=
    ⟨rfl, rfl, rfl, by simp [World.setCell], fun j _ hn => Below.heap_setCell _ _ _ j (fun e => hn (by rw [e]))⟩
  refine ⟨by rw [mixW_length]; exact hz, by have := h.top; have := hg.size; simp [World.setCell]; omega, (ho2.stored _ _).1, h.outerLt, fun i hi => ?_, fun i hi b hb => ?_, fun i j hi hj hij b hb => ?_⟩
  · by_cases e : i = k
    · subst e
      rw [mixW_at m ts (i + 1) i (by omega), if_pos (by omega)]
      refine ⟨a', c', ?_, ?_, ?_⟩
      · rw [hset]; simp only [marks_length, hl]; exact hcell
      · rw [List.getElem?_set_self (by omega), hl]
      · simp only [marks_length, hl]
        refine hrow.kept hgs ?_
        cases hv : (Value.slice a' l c').ownBlock with
        | none => exact .inl rfl
        | some b => exact .inr (fun e => hgk b hv (by simpa using e.symm))
    · obtain ⟨a1, c1, k1, k2, k3⟩ := h.row i hi
      have hm1 : wat (mixW m ts (k + 1)) i = wat (mixW m ts k) i := by
        rw [mixW_at m ts (k + 1) i (by omega), mixW_at m ts k i (by omega)]
        by_cases e1 : i < k
        · rw [if_pos e1, if_pos (by omega)]
        · rw [if_neg e1, if_neg (by omega)]
      rw [hm1]
      refine ⟨a1, c1, by rw [hset]; exact k1, by rw [List.getElem?_set_ne (by omega)]; exact k2, (k3.kept hg ?_).kept hgs ?_⟩
      · cases hv : (Value.slice a1 (wat (mixW m ts k) i).1.length c1).ownBlock with
        | none => exact .inl rfl
        | some b => exact .inr (fun e' => h.apart i k hi hk e b (by rw [blkW_of k1]; exact hv) (by rw [hbk]; exact e'.symm))
      · cases hv : (Value.slice a1 (wat (mixW m ts k) i).1.length c1).ownBlock with
        | none => exact .inl rfl
        | some b => exact .inr (fun e' => by have := (h.rowLt i hi b (by rw [blkW_of k1]; exact hv)).2; simp [Value.ownBlock] at e' this; omega)
  · rw [hbs] at hb; exact h.rowLt i hi b hb
  · rw [hbs] at hb ⊢; exact h.apart i j hi hj hij b hb

set_option maxHeartbeats 2000000 in
theorem markWeightedS_any (lo hi : Nat) (a : Option Addr) (n c : Nat) (ts : List WRow) (cells : List Value) (m : Int) (w : World) (hs : ∀ i, i < n → (wat ts i).1.length ≤ 1048576) (ht : wtot ts n ≤ 1048576) (h0 : 0 ≤ m) (h1 : m ≤ 268435456)
    (ho : OwnW w lo hi 82 3 a n c ts cells) :
    Calls Tryz.prog 59 #[.slice a n c, .int .i64 m] w fun e w' => e = .returned (.int .i64 (m + wtot ts n)) ∧ (∃ cells', OwnW w' lo hi 82 3 a n c (markW m ts) cells') ∧ Apart lo hi w w' := by
  have hz := ho.len
  have hn : n ≤ 1048576 := by have := wtot_len ts n (by omega); omega
  by_cases hn0 : n = 0
  · subst hn0
    obtain rfl := List.eq_nil_of_length_eq_zero hz
    go_enter Tryz.func59, Tryz.ntmps59
    go_wp2
    refine wp_loop_rounds 1 ?_
    rw [rounds_succ]
    go_wp2
    go_ret
    exact ⟨ret_int (by simp [wtot]), ⟨cells, ho⟩, Apart.refl _ _ _⟩
  · obtain ⟨g, hgv⟩ : ∃ g, a = some ⟨g, 0, none⟩ := by
      rcases ho.outer.2 with ⟨_, h⟩ | ⟨g, cap, cur, hv, _⟩
      · omega
      · simp only [Value.slice.injEq, true_and] at hv
        exact ⟨g, hv.1⟩
    subst hgv
    have ho0 : OwnW w lo hi 82 3 (some ⟨g, 0, none⟩) n c (mixW m ts 0) cells := by rw [mixW_zero]; exact ho
    clear ho
    go_enter Tryz.func59, Tryz.ntmps59
    go_wp2
    go_loopw [1, 5] (fun q i wr => ∃ (k : Nat) (cells : List Value), k ≤ n ∧ i = .int .i64 k ∧ q = .int .i64 (m + wtot ts k) ∧ OwnW wr lo hi 82 3 (some ⟨g, 0, none⟩) n c (mixW m ts k) cells ∧ Apart lo hi w wr) (fun _ i _ => n - (intOf i).toNat)
    case atStart => exact ⟨0, cells, Nat.zero_le _, rfl, by simp [wtot_zero], ho0, Apart.refl _ _ _⟩
    case round =>
      clear ho0 cells
      obtain ⟨k, cells, hk, rfl, rfl, ho, hap⟩ := hrel
      by_cases hlt : k < n
      · obtain ⟨a', c', k1, k2, k3⟩ := ho.row k hlt
        rw [mixW_len m ts k k (by omega)] at k1 k3
        have hsm := hs k hlt
        have hts := wtot_succ ts k (by omega)
        have htm := wtot_mono ts (k + 1) n (by omega)
        obtain ⟨l, hl⟩ : ∃ l, (wat ts k).1.length = l := ⟨_, rfl⟩
        rw [hl] at k1 k3 hsm hts
        obtain ⟨T, hT⟩ : ∃ T : Nat, wtot ts k = T := ⟨_, rfl⟩
        have hb1 : m + (T : Int) ≤ 1073741824 := by omega
        have hb0 : 0 ≤ m + (T : Int) := by omega
        have hout := ho.outer
        have hln := hout.1
        have hcx : wr.cell? ⟨g, k * 2, none⟩ = some (.slice a' l c') := (hout.cellAt _ (by omega)).trans k1
        have HO := Hid.mk ho
        have HK := Hid.mk k1
        have HL := Hid.mk hl
        have HT := Hid.mk hT
        have HTS := Hid.mk hts
        have HAP := Hid.mk hap
        obtain ⟨u', hu'⟩ : ∃ u, cells[k * 2 + 1]? = some u := ⟨_, List.getElem?_eq_getElem (by omega)⟩
        have HU := Hid.mk hu'
        rw [hT]
        have hki : (k : Int) < (n : Int) := by omega
        clear k1 k2 hl hT hts htm hap hu' ho hout
        go_wp2_with fail
        refine (markIntS_any _ _ _ _ _ _ _ hsm hb0 hb1 k3).mono ?_
        rintro e w2 ⟨rfl, hr2, hg2⟩
        have hmk := HO.out.marked (m := m) (ts := ts) (by have := HO.out.len; rwa [mixW_length] at this) hlt HL.out HK.out (by rw [HT.out]; exact hr2) hg2
        rw [HT.out] at hmk
        have hgb : ∀ b, (Value.slice a' l c').ownBlock = some b → g ≠ b := fun b hb e => by
          have := (HO.out.rowLt k hlt b (by rw [blkW_of HK.out]; exact hb)).2
          simp [Value.ownBlock, e] at this
        have ho2 := HO.out.outer.kept hg2 (.inr (fun e => by
          have h1 : (Value.slice a' l c').ownBlock = some g := by rw [← e]; rfl
          exact hgb g h1 rfl))
        have hco : w2.cell? ⟨g, k * 2 + 1, none⟩ = some u' := (ho2.cellAt _ (by omega)).trans HU.out
        have hfo : w2.frozen? ⟨g, k * 2 + 1, none⟩ = false := ho2.frozenAt _
        have hcx2 : w2.cell? ⟨g, k * 2, none⟩ = some (.slice a' l c') := (ho2.cellAt _ (by omega)).trans HK.out
        have HM := Hid.mk hmk
        have hB := HO.out.blocks
        have HA : Hid (Apart lo hi w (w2.setCell ⟨g, k * 2 + 1, none⟩ (.int .i64 (m + T + l)))) :=
          (HAP.out.trans (Apart.grown hg2 (fun b hb => hB.2 k hlt b (by rw [blkW_of HK.out]; exact hb)))).trans
            (Apart.grown (row := some g) ⟨rfl, rfl, rfl, by simp [World.setCell], fun j _ hn => Below.heap_setCell _ _ _ j (fun e => hn (by rw [e]))⟩ (fun b hb => by have := hB.1 g rfl; simp at hb; omega))
        clear hmk ho2 hgb hB hr2 hg2 k3 hcx HO HK HU
        go_wp2
        go_roundw
        case rel => exact ⟨k + 1, _, by omega, by go_num, by have := HTS.out; have := HT.out; go_num, HM.out, HA.out⟩
        case measure => simp [intOf]; omega
      · obtain rfl : k = n := by omega
        have hTm : wtot ts k ≤ 1048576 := ht
        have ho' : OwnW wr lo hi 82 3 (some ⟨g, 0, none⟩) k c (markW m ts) cells := by
          rw [← mixW_all, hz]; exact ho
        go_wp2
        go_ret
        exact ⟨rfl, ⟨cells, ho'⟩, hap⟩

set_option maxHeartbeats 2000000 in
theorem heldWeightedS_any (a : Option Addr) (n c : Nat) (ts : List WRow) (m : Int) (w : World) (hz : ts.length = n) (hs : ∀ i, i < n → (wat ts i).1.length ≤ 1048576) (ht : wtot ts n ≤ 1048576) (h0 : 0 ≤ m) (h1 : m ≤ 268435456) (ha : AtW w a (markW m ts)) :
    Calls Tryz.prog 60 #[.slice a n c, .int .i64 m] w fun e w' => e = .returned (.int .i64 (m + wtot ts n)) ∧ Below w.heap.size w w' := by
  have hn : n ≤ 1048576 := by have := wtot_len ts n (by omega); omega
  by_cases hn0 : n = 0
  · subst hn0
    obtain rfl := List.eq_nil_of_length_eq_zero hz
    go_enter Tryz.func60, Tryz.ntmps60
    go_wp2
    refine wp_loop_rounds 1 ?_
    rw [rounds_succ]
    go_wp2
    go_ret
    exact ⟨ret_int (by simp [wtot]), Below.refl _ _⟩
  · go_enter Tryz.func60, Tryz.ntmps60
    go_wp2
    go_loopw [1, 5] (fun q i wr => ∃ (k : Nat), k ≤ n ∧ i = .int .i64 k ∧ q = .int .i64 (m + wtot ts k) ∧ Below w.heap.size w wr) (fun _ i _ => n - (intOf i).toNat)
    case atStart => exact ⟨0, Nat.zero_le _, rfl, by simp [wtot_zero], Below.refl _ _⟩
    case round =>
      obtain ⟨k, hk, rfl, rfl, hbw⟩ := hrel
      by_cases hlt : k < n
      · obtain ⟨b, off, rfl, hc⟩ := (ha.below hbw).some (by rw [markW_length]; omega)
        obtain ⟨q, d, hcx, hwx, _, hat⟩ := hc k (by rw [markW_length]; omega)
        rw [markW_at m ts k (by omega)] at hcx hwx hat
        simp only [marks_length] at hcx
        have hsm := hs k hlt
        have hts := wtot_succ ts k (by omega)
        have htm := wtot_mono ts (k + 1) n (by omega)
        obtain ⟨l, hl⟩ : ∃ l, (wat ts k).1.length = l := ⟨_, rfl⟩
        simp only [hl] at hcx hwx hat hsm hts
        obtain ⟨T, hT⟩ : ∃ T : Nat, wtot ts k = T := ⟨_, rfl⟩
        rw [hT] at hwx hat ⊢
        have hb1 : m + (T : Int) ≤ 1073741824 := by omega
        have hb0 : 0 ≤ m + (T : Int) := by omega
        have HT := Hid.mk hT
        have HTS := Hid.mk hts
        have hki : (k : Int) < (n : Int) := by omega
        have hnn : ¬ m + (T : Int) + l < 0 := by omega
        clear hc hl hT hts htm ha
        go_wp2_with fail
        refine (heldIntS_any' _ _ _ _ _ hsm hb0 hb1 hat).mono ?_
        rintro e w2 ⟨rfl, hb2⟩
        have e1 := cell_later hb2 hwx
        have e2 := cell_later hb2 hcx
        have HB := Hid.mk (hbw.trans (hb2.mono hbw.size))
        clear hb2 hwx hcx hat hbw
        go_wp2
        go_roundw
        case rel => exact ⟨k + 1, by omega, by go_num, by have := HTS.out; have := HT.out; go_num, HB.out⟩
        case measure => simp [intOf]; omega
      · obtain rfl : k = n := by omega
        have hTm : wtot ts k ≤ 1048576 := ht
        go_wp2
        go_ret
        exact ⟨rfl, hbw⟩

theorem markTable_any (lo hi : Nat) (a : Option Addr) (n c : Nat) (ts : List WRow) (p : Int) (cells : List Value) (m : Int) (w : World) (hs : ∀ i, i < n → (wat ts i).1.length ≤ 1048576) (ht : wtot ts n ≤ 1048576) (h0 : 0 ≤ m) (h1 : m ≤ 268435456)
    (ho : OwnW w lo hi 82 3 a n c ts cells) :
    Calls Tryz.prog 23 #[.agg #[.int .i64 p, .slice a n c], .int .i64 m] w fun e w' => e = .returned (.int .i64 (m + wtot ts n)) ∧ (∃ cells', OwnW w' lo hi 82 3 a n c (markW m ts) cells') ∧ Apart lo hi w w' := by
  have HO := ho.alloc (.cells #[.int .i64 p, .slice a n c] 32)
  have hAp : Apart lo hi w (w.alloc (.cells #[.int .i64 p, .slice a n c] 32)) := Apart.grown (World.grownBy_alloc w _ none) (fun k hk => by cases hk)
  clear ho
  go_enter Tryz.func23, Tryz.ntmps23
  go_wp2_with fail
  refine (markWeightedS_any lo hi _ _ _ ts cells _ _ hs ht h0 h1 HO).mono ?_
  rintro e w1 ⟨rfl, ho1, hap⟩
  go_wp2
  go_ret
  exact ⟨rfl, ho1, hAp.trans hap⟩

theorem heldTable_any (a : Option Addr) (n c : Nat) (ts : List WRow) (p m : Int) (w : World) (hz : ts.length = n) (hs : ∀ i, i < n → (wat ts i).1.length ≤ 1048576) (ht : wtot ts n ≤ 1048576) (h0 : 0 ≤ m) (h1 : m ≤ 268435456) (ha : AtW w a (markW m ts)) :
    Calls Tryz.prog 24 #[.agg #[.int .i64 p, .slice a n c], .int .i64 m] w fun e w' => e = .returned (.int .i64 (m + wtot ts n)) ∧ Below w.heap.size w w' := by
  have HA := ha.alloc (.cells #[.int .i64 p, .slice a n c] 32)
  have h2 : ¬ m + (wtot ts n : Int) < 0 := by omega
  have B0 : Below w.heap.size w (w.alloc (.cells #[.int .i64 p, .slice a n c] 32)) := (Below.refl _ _).alloc (Nat.le_refl _) _
  clear ha
  go_enter Tryz.func24, Tryz.ntmps24
  go_wp2_with fail
  refine (heldWeightedS_any _ _ _ ts _ _ hz hs ht h0 h1 HA).mono ?_
  rintro e w1 ⟨rfl, hb1⟩
  go_wp2
  go_ret
  exact ⟨rfl, B0.trans (hb1.mono B0.size)⟩

end Go.Proofs.YthiabjkjpjmahaaGreat

/- Contracts of the laws' helpers over weighted rows: eqWeighted, eqWeightedS, eqTable. -/
namespace Go.Proofs.YthiabjkjpjmahaaGreat
open Go.RowKit

set_option maxHeartbeats 1000000 in
theorem eqWeighted_any (a a' : Option Addr) (n n' c c' : Nat) (zs zs' : List Int) (x x' : Int) (w : World) (hz : zs.length = n) (hz' : zs'.length = n') (hn : n ≤ 1048576) (hn' : n' ≤ 1048576) (ha : At w a zs) (ha' : At w a' zs') :
    Calls Tryz.prog 94 #[.agg #[.slice a n c, .int .i64 x], .agg #[.slice a' n' c', .int .i64 x']] w fun e w' => e = .returned (.bool (decide ((zs, x) = (zs', x')))) ∧ Below w.heap.size w w' := by
  obtain ⟨W, hW⟩ : ∃ W, W = (w.alloc (.cells #[.slice a n c, .int .i64 x] 82)).alloc (.cells #[.slice a' n' c', .int .i64 x'] 82) := ⟨_, rfl⟩
  have B : Below w.heap.size w W := by rw [hW]; exact ((Below.refl _ _).alloc (Nat.le_refl _) _).alloc (by simp) _
  have HA : At W a zs := ha.below B
  have HA' : At W a' zs' := ha'.below B
  have c1 : W.cell? ⟨w.heap.size, 0, none⟩ = some (.slice a n c) := by rw [hW]; simp
  have c2 : W.cell? ⟨w.heap.size + 1, 0, none⟩ = some (.slice a' n' c') := by rw [hW]; simp
  have d1 : W.cell? ⟨w.heap.size, 1, none⟩ = some (.int .i64 x) := by rw [hW]; simp
  have d2 : W.cell? ⟨w.heap.size + 1, 1, none⟩ = some (.int .i64 x') := by rw [hW]; simp
  clear ha ha'
  by_cases he : zs = zs'
  · by_cases hx : x = x'
    · have hne : (x != x') = false := by simp [hx]
      have HD : Hid (decide ((zs, x) = (zs', x')) = true) := by show _ = _; simp [he, hx]
      have HE : Hid (decide (zs = zs') = true) := by show _ = _; simp [he]
      clear he hx
      go_enter Tryz.func94, Tryz.ntmps94
      go_wp2_with fail
      rw [← hW]
      clear hW
      refine (eqRow_any _ _ _ _ _ _ zs zs' _ hz hz' hn hn' HA HA').mono ?_
      rintro e w1 ⟨rfl, hb⟩
      rw [HE.out]
      have e1 := cell_later hb d1
      have e2 := cell_later hb d2
      clear d1 d2 c1 c2 HA HA'
      go_wp2
      go_ret
      exact ⟨ret_bool HD.out.symm, B.trans (hb.mono B.size)⟩
    · have hne : (x != x') = true := by simp [hx]
      have HD : Hid (decide ((zs, x) = (zs', x')) = false) := by show _ = _; simp [hx]
      have HE : Hid (decide (zs = zs') = true) := by show _ = _; simp [he]
      clear he hx
      go_enter Tryz.func94, Tryz.ntmps94
      go_wp2_with fail
      rw [← hW]
      clear hW
      refine (eqRow_any _ _ _ _ _ _ zs zs' _ hz hz' hn hn' HA HA').mono ?_
      rintro e w1 ⟨rfl, hb⟩
      rw [HE.out]
      have e1 := cell_later hb d1
      have e2 := cell_later hb d2
      clear d1 d2 c1 c2 HA HA'
      go_wp2
      go_ret
      exact ⟨ret_bool HD.out.symm, B.trans (hb.mono B.size)⟩
  · have HD : Hid (decide ((zs, x) = (zs', x')) = false) := by show _ = _; simp [he]
    have HE : Hid (decide (zs = zs') = false) := by show _ = _; simp [he]
    clear he
    go_enter Tryz.func94, Tryz.ntmps94
    go_wp2_with fail
    rw [← hW]
    clear hW
    refine (eqRow_any _ _ _ _ _ _ zs zs' _ hz hz' hn hn' HA HA').mono ?_
    rintro e w1 ⟨rfl, hb⟩
    rw [HE.out]
    clear d1 d2 c1 c2 HA HA'
    go_wp2
    go_ret
    exact ⟨ret_bool HD.out.symm, B.trans (hb.mono B.size)⟩

set_option maxHeartbeats 2000000 in
theorem eqWeightedS_any (a a' : Option Addr) (n n' c c' : Nat) (ts ts' : List WRow) (w : World) (hz : ts.length = n) (hz' : ts'.length = n') (hn : n ≤ 1048576) (hn' : n' ≤ 1048576)
    (hs : ∀ i, i < n → (wat ts i).1.length ≤ 1048576) (hs' : ∀ i, i < n' → (wat ts' i).1.length ≤ 1048576) (ha : AtW w a ts) (ha' : AtW w a' ts') :
    Calls Tryz.prog 54 #[.slice a n c, .slice a' n' c'] w fun e w' => e = .returned (.bool (decide (ts = ts'))) ∧ Below w.heap.size w w' := by
  by_cases hnn : n = n'
  · subst hnn
    by_cases h0 : n = 0
    · subst h0
      obtain rfl := List.eq_nil_of_length_eq_zero hz
      obtain rfl := List.eq_nil_of_length_eq_zero hz'
      go_enter Tryz.func54, Tryz.ntmps54
      go_wp2
      refine wp_loop_rounds 1 ?_
      rw [rounds_succ]
      go_wp2
      go_ret
      exact ⟨by simp, Below.refl _ _⟩
    · go_enter Tryz.func54, Tryz.ntmps54
      go_wp2
      go_loopw [5] (fun i wr => ∃ (k : Nat), k ≤ n ∧ i = .int .i64 k ∧ ts.take k = ts'.take k ∧ Below w.heap.size w wr) (fun i _ => n - (intOf i).toNat)
      case atStart => exact ⟨0, Nat.zero_le _, rfl, rfl, Below.refl _ _⟩
      case round =>
        obtain ⟨k, hk, rfl, ht, hbw⟩ := hrel
        by_cases hlt : k < n
        · obtain ⟨b, off, rfl, hc⟩ := (ha.below hbw).some (by omega)
          obtain ⟨b', off', rfl, hc'⟩ := (ha'.below hbw).some (by omega)
          obtain ⟨q, d, hcx, hwx, _, hat⟩ := hc k (by omega)
          obtain ⟨q', d', hcy, hwy, _, hat'⟩ := hc' k (by omega)
          have hm := hs k (by omega)
          have hm' := hs' k (by omega)
          have HT : Hid (wat ts k = wat ts' k → ts.take (k + 1) = ts'.take (k + 1)) := fun e => by
            rw [wtake_succ ts k (by omega), wtake_succ ts' k (by omega), ht, e]
          have HN : Hid (wat ts k ≠ wat ts' k → ts ≠ ts') := wne_of
          generalize wat ts k = Y at *
          generalize wat ts' k = Y' at *
          obtain ⟨ys, x⟩ := Y
          obtain ⟨ys', x'⟩ := Y'
          simp only at hcx hcy hwx hwy hat hat' hm hm'
          obtain ⟨m, hmm⟩ : ∃ m, ys.length = m := ⟨_, rfl⟩
          obtain ⟨m', hmm'⟩ : ∃ m, ys'.length = m := ⟨_, rfl⟩
          rw [hmm] at hcx hm
          rw [hmm'] at hcy hm'
          have HM := Hid.mk hmm
          have HM' := Hid.mk hmm'
          have hki : (k : Int) < (n : Int) := by omega
          clear ht hc hc' hmm hmm' ha ha' hs hs'
          cases hbl : decide ((ys, x) = (ys', x')) with
          | true =>
            have HD := Hid.mk hbl
            have HE := Hid.mk (of_decide_eq_true hbl)
            clear hbl
            go_wp2_with fail
            go_region_held3 (fun w' => w'.cell? ⟨b, off + k * 2, none⟩ = some (.slice q m d) ∧ w'.cell? ⟨b, off + k * 2 + 1, none⟩ = some (.int .i64 x) ∧ w'.cell? ⟨b', off' + k * 2, none⟩ = some (.slice q' m' d') ∧ w'.cell? ⟨b', off' + k * 2 + 1, none⟩ = some (.int .i64 x')) (refine ⟨?_, ?_, ?_, ?_⟩ <;> assumption)
              (first | (go_at_call 94; refine (eqWeighted_any _ _ _ _ _ _ ys ys' _ _ _ HM.out HM'.out hm hm' hat.drew hat'.drew).mono ?_; rintro e w2 ⟨rfl, hb2⟩; rw [HD.out]; have e1 := cell_later hb2 hcx; have e2 := cell_later hb2 hcy; have e3 := cell_later hb2 hwx; have e4 := cell_later hb2 hwy))
            go_wp2
            go_roundw
            case rel => exact ⟨k + 1, by omega, by go_num, HT.out HE.out, hbw.drew.trans (hb2.mono hbw.size)⟩
            case measure => simp [intOf]; omega
          | false =>
            have HD := Hid.mk hbl
            have HE := Hid.mk (of_decide_eq_false hbl)
            clear hbl
            go_wp2_with fail
            go_region_held3 (fun w' => w'.cell? ⟨b, off + k * 2, none⟩ = some (.slice q m d) ∧ w'.cell? ⟨b, off + k * 2 + 1, none⟩ = some (.int .i64 x) ∧ w'.cell? ⟨b', off' + k * 2, none⟩ = some (.slice q' m' d') ∧ w'.cell? ⟨b', off' + k * 2 + 1, none⟩ = some (.int .i64 x')) (refine ⟨?_, ?_, ?_, ?_⟩ <;> assumption)
              (first | (go_at_call 94; refine (eqWeighted_any _ _ _ _ _ _ ys ys' _ _ _ HM.out HM'.out hm hm' hat.drew hat'.drew).mono ?_; rintro e w2 ⟨rfl, hb2⟩; rw [HD.out]; have e1 := cell_later hb2 hcx; have e2 := cell_later hb2 hcy; have e3 := cell_later hb2 hwx; have e4 := cell_later hb2 hwy))
            go_wp2
            go_ret
            exact ⟨ret_bool (decide_eq_false (HN.out HE.out)).symm, hbw.drew.trans (hb2.mono hbw.size)⟩
        · go_wp2
          go_ret
          exact ⟨ret_bool (decide_eq_true (wtake_all (by omega) (by omega) ht)).symm, hbw⟩
  · go_enter Tryz.func54, Tryz.ntmps54
    go_wp2
    go_ret
    exact ⟨ret_bool (decide_eq_false (fun e => hnn (by rw [← hz, ← hz', e]))).symm, Below.refl _ _⟩

set_option maxHeartbeats 1000000 in
theorem eqTable_any (a a' : Option Addr) (n n' c c' : Nat) (ts ts' : List WRow) (p p' : Int) (w : World) (hz : ts.length = n) (hz' : ts'.length = n') (hn : n ≤ 1048576) (hn' : n' ≤ 1048576)
    (hs : ∀ i, i < n → (wat ts i).1.length ≤ 1048576) (hs' : ∀ i, i < n' → (wat ts' i).1.length ≤ 1048576) (ha : AtW w a ts) (ha' : AtW w a' ts') :
    Calls Tryz.prog 18 #[.agg #[.int .i64 p, .slice a n c], .agg #[.int .i64 p', .slice a' n' c']] w fun e w' => e = .returned (.bool (decide (p = p' ∧ ts = ts'))) ∧ Below w.heap.size w w' := by
  obtain ⟨W, hW⟩ : ∃ W, W = (w.alloc (.cells #[.int .i64 p, .slice a n c] 32)).alloc (.cells #[.int .i64 p', .slice a' n' c'] 32) := ⟨_, rfl⟩
  have B : Below w.heap.size w W := by rw [hW]; exact ((Below.refl _ _).alloc (Nat.le_refl _) _).alloc (by simp) _
  have HA : AtW W a ts := ha.below B
  have HA' : AtW W a' ts' := ha'.below B
  clear ha ha'
  by_cases hp : p = p'
  · have hne : (p != p') = false := by simp [hp]
    obtain ⟨d, HE, HD⟩ : ∃ d : Bool, Hid (decide (ts = ts') = d) ∧ Hid (decide (p = p' ∧ ts = ts') = d) := ⟨_, Hid.mk rfl, by show _ = _; simp [hp]⟩
    clear hp
    cases d
    all_goals
      go_enter Tryz.func18, Tryz.ntmps18
      go_wp2_with fail
      rw [← hW]
      clear hW
      refine (eqWeightedS_any _ _ _ _ _ _ ts ts' _ hz hz' hn hn' hs hs' HA HA').mono ?_
      rintro e w1 ⟨rfl, hb⟩
      rw [HE.out]
      clear HA HA'
      go_wp2
      go_ret
      exact ⟨ret_bool HD.out.symm, B.trans (hb.mono B.size)⟩
  · have hne : (p != p') = true := by simp [hp]
    have HD : Hid (decide (p = p' ∧ ts = ts') = false) := by show _ = _; simp [hp]
    clear hp
    go_enter Tryz.func18, Tryz.ntmps18
    go_wp2
    go_ret
    exact ⟨ret_bool HD.out.symm, by rw [← hW]; exact B⟩

end Go.Proofs.YthiabjkjpjmahaaGreat
