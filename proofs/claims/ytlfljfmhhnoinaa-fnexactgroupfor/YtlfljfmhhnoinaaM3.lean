/- Several texts of one proof, in build order: GrpH, GrpM, GrpE. -/
import Derived.Test.YtlfljfmhhnoinaaM1
import Derived.Test.YtlfljfmhhnoinaaM2

/- Contracts of the laws' helpers over groups: szGroup, szGroupS, toGroup, toGroupS. -/
namespace Go.Proofs.Ytlfljfmhhnoinaa
open Go.RowKit

theorem szGroup_any (a : Option Addr) (n c : Nat) (x y l : Int) (w : World) (hn : n ≤ 9223372036854775807) (h0 : 0 ≤ l) (h1 : l ≤ 1048576) :
    Calls Try.prog 39 #[.agg #[.slice a n c, .int .i64 x, .int .i64 y], .int .i64 l] w fun e w' => e = .returned (.int .i64 (if l < n then -1 else l - n)) ∧ Below w.heap.size w w' := by
  by_cases h : l < n
  · go_enter Try.func39, Try.ntmps39
    go_wp2_with fail
    refine (szRow_any _ _ _ _ _ hn h0 h1).mono ?_
    rintro e w' ⟨rfl, hb⟩
    rw [if_pos h]
    go_wp2
    go_ret
    exact ⟨by simp, ((Below.refl _ _).alloc (Nat.le_refl _) _).trans (hb.mono (by simp))⟩
  · have h' : ¬ l - (n : Int) < 0 := by omega
    go_enter Try.func39, Try.ntmps39
    go_wp2_with fail
    refine (szRow_any _ _ _ _ _ hn h0 h1).mono ?_
    rintro e w' ⟨rfl, hb⟩
    rw [if_neg (by omega)]
    go_wp2
    go_ret
    exact ⟨by simp, ((Below.refl _ _).alloc (Nat.le_refl _) _).trans (hb.mono (by simp))⟩

/-- What szGroupS takes: a slot a row, and the rows' cells. -/
theorem vtot_cells (ts : List GRow) (k : Nat) (h : k ≤ ts.length) : ∃ s : Nat, vtot ts k = k + s := ⟨vtot ts k - k, by have := vtot_len ts k h; omega⟩

set_option maxHeartbeats 1000000 in
theorem szGroupS_any (a : Option Addr) (n c : Nat) (ts : List GRow) (l : Int) (w : World) (hz : ts.length = n) (hn : n ≤ 9223372036854775807) (h0 : 0 ≤ l) (h1 : l ≤ 1048576) (ha : AtV w a ts) :
    Calls Try.prog 9 #[.slice a n c, .int .i64 l] w fun e w' => e = .returned (.int .i64 (leftOf l (vtot ts n))) ∧ Below w.heap.size w w' := by
  have hle := vtot_len ts n (by omega)
  by_cases hb : l < n
  · have h' : l - (n : Int) < 0 := by omega
    go_enter Try.func9, Try.ntmps9
    go_wp2
    go_ret
    exact ⟨ret_int (leftOf_no (by omega)).symm, Below.refl _ _⟩
  · have h' : ¬ l - (n : Int) < 0 := by omega
    by_cases hn0 : n = 0
    · subst hn0
      have ht : vtot ts 0 = 0 := rfl
      go_enter Try.func9, Try.ntmps9
      go_wp2
      refine wp_loop_rounds 1 ?_
      rw [rounds_succ]
      go_wp2
      go_ret
      exact ⟨ret_int (by rw [ht, leftOf_yes (by omega)]; omega), Below.refl _ _⟩
    · go_enter Try.func9, Try.ntmps9
      go_wp2
      go_loopw [1, 5] (fun q i wr => ∃ (k : Nat) (r : Int), k ≤ n ∧ i = .int .i64 k ∧ q = .int .i64 r ∧ 0 ≤ r ∧ r ≤ 1048576 ∧ r + vtot ts k - k = l - n ∧ Below w.heap.size w wr) (fun _ i _ => n - (intOf i).toNat)
      case atStart => exact ⟨0, l - n, Nat.zero_le _, rfl, rfl, by omega, by omega, by rw [vtot_zero]; omega, Below.refl _ _⟩
      case round =>
        obtain ⟨k, r, hk, rfl, rfl, hr0, hr1, hr, hbw⟩ := hrel
        by_cases hlt : k < n
        · obtain ⟨b, off, rfl, hc⟩ := (ha.below hbw).some (by omega)
          obtain ⟨a', c', hcx, hcw, hcv, hm, hat⟩ := hc k (by omega)
          have hts := vtot_succ ts k (by omega)
          have htm := vtot_mono ts (k + 1) n (by omega)
          have htl : n - (k + 1) ≤ vtot ts n - vtot ts (k + 1) := by
            have : ∀ d, k + 1 + d ≤ n → d ≤ vtot ts (k + 1 + d) - vtot ts (k + 1) ∧ vtot ts (k + 1) ≤ vtot ts (k + 1 + d) := by
              intro d
              induction d with
              | zero => intro _; simp
              | succ d ih => intro h; have := ih (by omega); rw [show k + 1 + (d + 1) = (k + 1 + d) + 1 from rfl, vtot_succ ts _ (by omega)]; omega
            have := this (n - (k + 1)) (by omega)
            rw [show k + 1 + (n - (k + 1)) = n by omega] at this
            omega
          obtain ⟨m, hmm⟩ : ∃ m, m = (gat ts k).1.length := ⟨_, rfl⟩
          rw [← hmm] at hcx hm hts
          obtain ⟨x, hxx⟩ : ∃ x, x = (gat ts k).2.1 := ⟨_, rfl⟩
          rw [← hxx] at hcw
          obtain ⟨y, hyy⟩ : ∃ y, y = (gat ts k).2.2 := ⟨_, rfl⟩
          rw [← hyy] at hcv
          have HR := Hid.mk hr
          have HT := Hid.mk hts
          have HL := Hid.mk htl
          have hki : (k : Int) < (n : Int) := by omega
          clear hmm hxx hyy hat hc hr hts ha htl
          by_cases hfit : r < m
          · go_wp2_with fail
            refine (szGroup_any _ _ _ _ _ _ _ hm hr0 hr1).mono ?_
            rintro e w' ⟨rfl, hb'⟩
            rw [if_pos hfit]
            go_wp2
            go_ret
            exact ⟨ret_int (leftOf_no (by have := HR.out; have := HT.out; have := HL.out; omega)).symm, hbw.trans (hb'.mono hbw.size)⟩
          · have hd : ¬ r - (m : Int) < 0 := by omega
            go_wp2_with fail
            refine (szGroup_any _ _ _ _ _ _ _ hm hr0 hr1).mono ?_
            rintro e w' ⟨rfl, hb'⟩
            rw [if_neg (by omega)]
            go_wp2
            go_roundw
            case rel => exact ⟨k + 1, r - m, by omega, by go_num, rfl, by omega, by omega, by have := HR.out; have := HT.out; omega, hbw.trans (hb'.mono hbw.size)⟩
            case measure => simp [intOf]; omega
        · obtain rfl : k = n := by omega
          have HR := Hid.mk hr
          clear hr
          go_wp2
          go_ret
          exact ⟨ret_int (by have := HR.out; rw [leftOf_yes (by omega)]; omega), hbw⟩

theorem toGroup_any (a : Option Addr) (n c : Nat) (zs : List Int) (x y : Int) (w : World) (hz : zs.length = n) (hn : n ≤ 1048576) (ha : At w a zs) :
    Calls Try.prog 43 #[.agg #[.slice a n c, .int .i64 x, .int .i64 y]] w fun e w' => ∃ g, e = .returned (.agg #[.slice (some ⟨g, 0, none⟩) n n, .int .i64 x, .int .i64 y]) ∧
      w'.ownsRow w.heap.size 3 1 (.slice (some ⟨g, 0, none⟩) n n) n (zs.map (.int .i64)) ∧ Below w.heap.size w w' := by
  go_enter Try.func43, Try.ntmps43
  go_wp2_with fail
  refine (toRow_any _ _ _ zs _ hz hn ?_).mono ?_
  · exact ((ha.alloc _).alloc _).alloc _
  · rintro e w' ⟨g, rfl, hown, hb⟩
    obtain ⟨hc, hf⟩ := bcell hb
    have hz' : w.heap.size + 2 < w'.heap.size := by have := hb.size; simp at this; omega
    simp only [World.size_alloc] at hc hf
    go_wp2
    refine bodyPost_ret (v := .agg #[.slice (some ⟨g, 0, none⟩) n n, .int .i64 x, .int .i64 y]) (by simp [results, Try.results43, go_sem, hc]) rfl ⟨_, rfl, ?_, ?_⟩
    · simp only [World.size_alloc] at hown
      exact owns_mono (ownsRow_setCell_below (ownsRow_setCell_below (ownsRow_setCell_below (ownsRow_setCell_below (ownsRow_setCell_below (ownsRow_setCell_below hown (by simp) _) (by simp) _) (by simp) _) (by simp) _) (by simp) _) (by simp) _) (by omega)
    · exact ((((((((((Below.refl _ _).alloc (Nat.le_refl _) _).alloc (by simp) _).alloc (by simp; omega) _).trans (hb.mono (by simp; omega))).setCell (by simp; omega) _).setCell (by simp; omega) _).setCell (by simp; omega) _).setCell (by simp) _).setCell (by simp) _).setCell (by simp) _

theorem Try.infoV : (Try.prog.info? 35).map (fun i => (i.zero, i.size, i.bytes)) = some (some (.agg #[.slice none 0 0, .int .i64 0, .int .i64 0]), 3, 40) := by kernel_rfl

set_option maxHeartbeats 2000000 in
theorem toGroupS_any (a : Option Addr) (n c : Nat) (ts : List GRow) (w : World) (hz : ts.length = n) (hn : n ≤ 1048576) (hs : ∀ i, i < n → (gat ts i).1.length ≤ 1048576) (ha : AtV w a ts) :
    Calls Try.prog 11 #[.slice a n c] w fun e w' => ∃ g cells, e = .returned (.slice (some ⟨g, 0, none⟩) n n) ∧ OwnV w' w.heap.size w'.heap.size 35 3 (some ⟨g, 0, none⟩) n n ts cells ∧ Below w.heap.size w w' := by
  obtain ⟨i0, hi, hz0, hz1, hz2⟩ := info_parts Try.infoV
  go_enter Try.func11, Try.ntmps11
  go_wp2_with (at_make; refine wpList_make_full _ rfl _ _ 25 rfl w.heap.size 35 i0 (.agg #[.slice none 0 0, .int .i64 0, .int .i64 0]) 3 Try.underlying25 hi hz0 hz1 .i64 .i64 _ _ n rfl rfl rfl rfl (by rw [hz2]; omega) (by unfold maxLen; omega) (Nat.le_refl _) ?_; intro w1 hown hg)
  have hb1 : Below w.heap.size w w1 := (Below.refl _ _).grown hg (Nat.le_refl _) (by simp)
  have hlt1 := (hown.lt w.heap.size rfl).2
  have hst : OwnVk w1 w.heap.size w1.heap.size 35 3 (some ⟨w.heap.size, 0, none⟩) n n ts _ 0 := OwnVk.start hz (Nat.le_refl _) hown (fun b hb => (hown.lt b hb).2)
  obtain ⟨cs, hcs⟩ : ∃ cs, cs = (madeCells (Value.agg #[.slice none 0 0, .int .i64 0, .int .i64 0]).cells (n * 3)).toList := ⟨_, rfl⟩
  rw [← hcs] at hst
  clear hcs hown hg
  go_loopw [4] (fun i wr => ∃ (k : Nat) (cells : List Value), k ≤ n ∧ i = .int .i64 k ∧ OwnVk wr w.heap.size wr.heap.size 35 3 (some ⟨w.heap.size, 0, none⟩) n n ts cells k ∧ w.heap.size < wr.heap.size ∧ Below w.heap.size w wr) (fun i _ => n - (intOf i).toNat)
  case atStart => exact ⟨0, cs, Nat.zero_le _, rfl, hst, hlt1, hb1⟩
  case round =>
    clear hst hb1 hlt1 cs
    obtain ⟨k, cells, hk, rfl, ho, hzr, hbw⟩ := hrel
    by_cases hlt : k < n
    · obtain ⟨b, off, rfl, hc⟩ := (ha.below hbw).some (by omega)
      obtain ⟨a', c', hcx, hcy, hcv, _, hat⟩ := hc k (by omega)
      have hsm := hs k (by omega)
      have hki : (k : Int) < (n : Int) := by omega
      have HO := Hid.mk ho
      obtain ⟨ys, hys⟩ : ∃ ys, ys = (gat ts k).1 := ⟨_, rfl⟩
      obtain ⟨x, hx⟩ : ∃ x, x = (gat ts k).2.1 := ⟨_, rfl⟩
      obtain ⟨y, hy⟩ : ∃ y, y = (gat ts k).2.2 := ⟨_, rfl⟩
      obtain ⟨m, hm⟩ : ∃ m, ys.length = m := ⟨_, rfl⟩
      rw [← hys, hm] at hcx hsm
      rw [← hys] at hat
      rw [← hx] at hcy
      rw [← hy] at hcv
      have HYS := Hid.mk hys
      have HX := Hid.mk hx
      have HY := Hid.mk hy
      have HM := Hid.mk hm
      clear hys hm hx hy hc ha ho hs
      go_wp2_with fail
      refine (toGroup_any a' _ c' ys _ _ _ HM.out hsm hat).mono ?_
      rintro e w2 ⟨g2, rfl, ho2, hb2⟩
      have hput := HO.out.put (m := m) (c' := m) (a' := some ⟨g2, 0, none⟩) hb2 hlt (by rw [← HYS.out]; exact HM.out) HX.out.symm HY.out.symm (Nat.le_of_lt hzr) (by rw [← HYS.out]; exact ho2)
      have hout := (HO.out.below hb2).outer
      have hln := hout.1
      obtain ⟨u, hu⟩ : ∃ u, cells[k * 3]? = some u := ⟨_, List.getElem?_eq_getElem (by omega)⟩
      obtain ⟨u', hu'⟩ : ∃ u, cells[k * 3 + 1]? = some u := ⟨_, List.getElem?_eq_getElem (by omega)⟩
      obtain ⟨u'', hu''⟩ : ∃ u, cells[k * 3 + 2]? = some u := ⟨_, List.getElem?_eq_getElem (by omega)⟩
      have hco : w2.cell? ⟨w.heap.size, k * 3, none⟩ = some u := (hout.cellAt _ (by omega)).trans hu
      have hco' : w2.cell? ⟨w.heap.size, k * 3 + 1, none⟩ = some u' := (hout.cellAt _ (by omega)).trans hu'
      have hco'' : w2.cell? ⟨w.heap.size, k * 3 + 2, none⟩ = some u'' := (hout.cellAt _ (by omega)).trans hu''
      have hfo : w2.frozen? ⟨w.heap.size, k * 3, none⟩ = false := hout.frozenAt _
      have hfo' : w2.frozen? ⟨w.heap.size, k * 3 + 1, none⟩ = false := hout.frozenAt _
      have hfo'' : w2.frozen? ⟨w.heap.size, k * 3 + 2, none⟩ = false := hout.frozenAt _
      have HP := Hid.mk hput
      have z2 := hb2.size
      have HB : Hid (Below w.heap.size w (((w2.setCell ⟨w.heap.size, k * 3, none⟩ (.slice (some ⟨g2, 0, none⟩) m m)).setCell ⟨w.heap.size, k * 3 + 1, none⟩ (.int .i64 x)).setCell ⟨w.heap.size, k * 3 + 2, none⟩ (.int .i64 y))) := (((hbw.trans (hb2.mono hbw.size)).setCell (Nat.le_refl _) _).setCell (Nat.le_refl _) _).setCell (Nat.le_refl _) _
      clear hput hout hln hu hu' hu'' hb2 hbw ho2 hcx hcy hcv hat
      go_wp2
      go_roundw
      case rel => exact ⟨k + 1, _, by omega, by go_num, by simpa [World.setCell] using HP.out, by simp [World.setCell]; omega, HB.out⟩
      case measure => simp [intOf]; omega
    · obtain rfl : k = n := by omega
      go_wp2
      go_ret
      exact ⟨_, _, rfl, ho, hbw⟩

end Go.Proofs.Ytlfljfmhhnoinaa

/- Contracts of the laws' helpers that mark groups: markGroupS, heldGroupS. -/
namespace Go.Proofs.Ytlfljfmhhnoinaa
open Go.RowKit

/-- The first k rows as the laws mark them, the others as they were. -/
def mixV (m : Int) (ts : List GRow) (k : Nat) : List GRow := (List.range ts.length).map fun i => if i < k then (marks (m + vmk ts i) (gat ts i).1.length, m + vmk ts i + (gat ts i).1.length, m + vmk ts i + (gat ts i).1.length + 1) else gat ts i
theorem mixV_length (m : Int) (ts : List GRow) (k : Nat) : (mixV m ts k).length = ts.length := by simp [mixV]
theorem mixV_at (m : Int) (ts : List GRow) (k i : Nat) (h : i < ts.length) : gat (mixV m ts k) i = if i < k then (marks (m + vmk ts i) (gat ts i).1.length, m + vmk ts i + (gat ts i).1.length, m + vmk ts i + (gat ts i).1.length + 1) else gat ts i := by
  simp [mixV, h]
theorem mixV_zero (m : Int) (ts : List GRow) : mixV m ts 0 = ts := by
  apply List.ext_getElem?
  intro i
  by_cases h : i < ts.length
  · simp [mixV, h]
  · simp [mixV, h]
theorem mixV_all (m : Int) (ts : List GRow) : mixV m ts ts.length = markV m ts := by
  unfold mixV markV
  exact List.map_congr_left fun i hi => if_pos (List.mem_range.1 hi)
theorem mixV_len (m : Int) (ts : List GRow) (k i : Nat) (h : i < ts.length) : (gat (mixV m ts k) i).1.length = (gat ts i).1.length := by
  rw [mixV_at m ts k i h]
  by_cases e : i < k
  · rw [if_pos e]; exact marks_length _ _
  · rw [if_neg e]

theorem OwnVk.marked {w w2 : World} {lo hi : Nat} {te ti : TypeId} {g n c k l : Nat} {ts : List GRow} {cells : List Value} {m : Int} {a' : Option Addr} {c' : Nat} (h : OwnV w lo hi te ti (some ⟨g, 0, none⟩) n c (mixV m ts k) cells) (hz : ts.length = n) (hk : k < n)
    (hl : (gat ts k).1.length = l) (hcell : cells[k * 3]? = some (.slice a' l c')) (hrow : w2.ownsRow lo ti 1 (.slice a' l c') l ((marks (m + vmk ts k) l).map (.int .i64))) (hg : w.grownBy w2 (Value.slice a' l c').ownBlock) :
    OwnV ((w2.setCell ⟨g, k * 3 + 1, none⟩ (.int .i64 (m + vmk ts k + l))).setCell ⟨g, k * 3 + 2, none⟩ (.int .i64 (m + vmk ts k + l + 1))) lo hi te ti (some ⟨g, 0, none⟩) n c (mixV m ts (k + 1)) ((cells.set (k * 3 + 1) (.int .i64 (m + vmk ts k + l))).set (k * 3 + 2) (.int .i64 (m + vmk ts k + l + 1))) := by
  have hbk : blkV cells k = (Value.slice a' l c').ownBlock := blkV_of hcell
  have hl2 := h.outer.1
  have hgk : ∀ b, (Value.slice a' l c').ownBlock = some b → g ≠ b := fun b hb e => by
    have := (h.rowLt k hk b (by rw [hbk]; exact hb)).2
    simp [Value.ownBlock, e] at this
  have ho2 : w2.ownsRow lo te 3 (.slice (some ⟨g, 0, none⟩) n c) n cells := h.outer.kept hg (.inr (fun e => by
    have h1 : (Value.slice a' l c').ownBlock = some g := by rw [← e]; rfl
    exact hgk g h1 rfl))
  have hset : ∀ i, ((cells.set (k * 3 + 1) (.int .i64 (m + vmk ts k + l))).set (k * 3 + 2) (.int .i64 (m + vmk ts k + l + 1)))[i * 3]? = cells[i * 3]? := fun i => by rw [List.getElem?_set_ne (by omega), List.getElem?_set_ne (by omega)]
  have hbs : ∀ i, blkV ((cells.set (k * 3 + 1) (.int .i64 (m + vmk ts k + l))).set (k * 3 + 2) (.int .i64 (m + vmk ts k + l + 1))) i = blkV cells i := fun i => by simp only [blkV, List.getD, hset i]
  have hgs : w2.grownBy ((w2.setCell ⟨g, k * 3 + 1, none⟩ (.int .i64 (m + vmk ts k + l))).setCell ⟨g, k * 3 + 2, none⟩ (.int .i64 (m + vmk ts k + l + 1))) (some g) :=
    ⟨rfl, rfl, rfl, by simp [World.setCell], fun j _ hn => (Below.heap_setCell _ _ _ j (fun e => hn (by rw [e]))).trans (Below.heap_setCell _ _ _ j (fun e => hn (by rw [e])))⟩
  refine ⟨by rw [mixV_length]; exact hz, by have := h.top; have := hg.size; simp [World.setCell]; omega, ((ho2.stored _ _).1.stored _ _).1, h.outerLt, fun i hi => ?_, fun i hi b hb => ?_, fun i j hi hj hij b hb => ?_⟩
  · by_cases e : i = k
    · subst e
      rw [mixV_at m ts (i + 1) i (by omega), if_pos (by omega)]
      refine ⟨a', c', ?_, ?_, ?_, ?_⟩
      · rw [hset]; simp only [marks_length, hl]; exact hcell
      · rw [List.getElem?_set_ne (by omega), List.getElem?_set_self (by omega), hl]
      · rw [List.getElem?_set_self (by simp; omega), hl]
      · simp only [marks_length, hl]
        refine hrow.kept hgs ?_
        cases hv : (Value.slice a' l c').ownBlock with
        | none => exact .inl rfl
        | some b => exact .inr (fun e => hgk b hv (by simpa using e.symm))
    · obtain ⟨a1, c1, k1, k2, k2', k3⟩ := h.row i hi
      have hm1 : gat (mixV m ts (k + 1)) i = gat (mixV m ts k) i := by
        rw [mixV_at m ts (k + 1) i (by omega), mixV_at m ts k i (by omega)]
        by_cases e1 : i < k
        · rw [if_pos e1, if_pos (by omega)]
        · rw [if_neg e1, if_neg (by omega)]
      rw [hm1]
      refine ⟨a1, c1, by rw [hset]; exact k1, by rw [List.getElem?_set_ne (by omega), List.getElem?_set_ne (by omega)]; exact k2, by rw [List.getElem?_set_ne (by omega), List.getElem?_set_ne (by omega)]; exact k2', (k3.kept hg ?_).kept hgs ?_⟩
      · cases hv : (Value.slice a1 (gat (mixV m ts k) i).1.length c1).ownBlock with
        | none => exact .inl rfl
        | some b => exact .inr (fun e' => h.apart i k hi hk e b (by rw [blkV_of k1]; exact hv) (by rw [hbk]; exact e'.symm))
      · cases hv : (Value.slice a1 (gat (mixV m ts k) i).1.length c1).ownBlock with
        | none => exact .inl rfl
        | some b => exact .inr (fun e' => by have := (h.rowLt i hi b (by rw [blkV_of k1]; exact hv)).2; simp [Value.ownBlock] at e' this; omega)
  · rw [hbs] at hb; exact h.rowLt i hi b hb
  · rw [hbs] at hb ⊢; exact h.apart i j hi hj hij b hb

set_option maxHeartbeats 2000000 in
theorem markGroupS_any (lo hi : Nat) (a : Option Addr) (n c : Nat) (ts : List GRow) (cells : List Value) (m : Int) (w : World) (hs : ∀ i, i < n → (gat ts i).1.length ≤ 1048576) (ht : vmk ts n ≤ 2097152) (h0 : 0 ≤ m) (h1 : m ≤ 268435456)
    (ho : OwnV w lo hi 35 3 a n c ts cells) :
    Calls Try.prog 20 #[.slice a n c, .int .i64 m] w fun e w' => e = .returned (.int .i64 (m + vmk ts n)) ∧ (∃ cells', OwnV w' lo hi 35 3 a n c (markV m ts) cells') ∧ Apart lo hi w w' := by
  have hz := ho.len
  have hn : n ≤ 2097152 := by have := vmk_len ts n (by omega); omega
  by_cases hn0 : n = 0
  · subst hn0
    obtain rfl := List.eq_nil_of_length_eq_zero hz
    go_enter Try.func20, Try.ntmps20
    go_wp2
    refine wp_loop_rounds 1 ?_
    rw [rounds_succ]
    go_wp2
    go_ret
    exact ⟨ret_int (by simp [vmk]), ⟨cells, ho⟩, Apart.refl _ _ _⟩
  · obtain ⟨g, hgv⟩ : ∃ g, a = some ⟨g, 0, none⟩ := by
      rcases ho.outer.2 with ⟨_, h⟩ | ⟨g, cap, cur, hv, _⟩
      · omega
      · simp only [Value.slice.injEq, true_and] at hv
        exact ⟨g, hv.1⟩
    subst hgv
    have ho0 : OwnV w lo hi 35 3 (some ⟨g, 0, none⟩) n c (mixV m ts 0) cells := by rw [mixV_zero]; exact ho
    clear ho
    go_enter Try.func20, Try.ntmps20
    go_wp2
    go_loopw [1, 5] (fun q i wr => ∃ (k : Nat) (cells : List Value), k ≤ n ∧ i = .int .i64 k ∧ q = .int .i64 (m + vmk ts k) ∧ OwnV wr lo hi 35 3 (some ⟨g, 0, none⟩) n c (mixV m ts k) cells ∧ Apart lo hi w wr) (fun _ i _ => n - (intOf i).toNat)
    case atStart => exact ⟨0, cells, Nat.zero_le _, rfl, by simp [vmk_zero], ho0, Apart.refl _ _ _⟩
    case round =>
      clear ho0 cells
      obtain ⟨k, cells, hk, rfl, rfl, ho, hap⟩ := hrel
      by_cases hlt : k < n
      · obtain ⟨a', c', k1, k2, k2', k3⟩ := ho.row k hlt
        rw [mixV_len m ts k k (by omega)] at k1 k3
        have hsm := hs k hlt
        have hts := vmk_succ ts k (by omega)
        have htm := vmk_mono ts (k + 1) n (by omega)
        obtain ⟨l, hl⟩ : ∃ l, (gat ts k).1.length = l := ⟨_, rfl⟩
        rw [hl] at k1 k3 hsm hts
        obtain ⟨T, hT⟩ : ∃ T : Nat, vmk ts k = T := ⟨_, rfl⟩
        have hb1 : m + (T : Int) ≤ 1073741824 := by omega
        have hb0 : 0 ≤ m + (T : Int) := by omega
        have hout := ho.outer
        have hln := hout.1
        have hcx : wr.cell? ⟨g, k * 3, none⟩ = some (.slice a' l c') := (hout.cellAt _ (by omega)).trans k1
        have HO := Hid.mk ho
        have HK := Hid.mk k1
        have HL := Hid.mk hl
        have HT := Hid.mk hT
        have HTS := Hid.mk hts
        have HAP := Hid.mk hap
        obtain ⟨u', hu'⟩ : ∃ u, cells[k * 3 + 1]? = some u := ⟨_, List.getElem?_eq_getElem (by omega)⟩
        have HU := Hid.mk hu'
        obtain ⟨u'', hu''⟩ : ∃ u, cells[k * 3 + 2]? = some u := ⟨_, List.getElem?_eq_getElem (by omega)⟩
        have HU' := Hid.mk hu''
        rw [hT]
        have hki : (k : Int) < (n : Int) := by omega
        clear k1 k2 k2' hl hT hts htm hap hu' hu'' ho hout
        go_wp2_with fail
        refine (markIntS_any _ _ _ _ _ _ _ hsm hb0 hb1 k3).mono ?_
        rintro e w2 ⟨rfl, hr2, hg2⟩
        have hmk := HO.out.marked (m := m) (ts := ts) (by have := HO.out.len; rwa [mixV_length] at this) hlt HL.out HK.out (by rw [HT.out]; exact hr2) hg2
        rw [HT.out] at hmk
        have hgb : ∀ b, (Value.slice a' l c').ownBlock = some b → g ≠ b := fun b hb e => by
          have := (HO.out.rowLt k hlt b (by rw [blkV_of HK.out]; exact hb)).2
          simp [Value.ownBlock, e] at this
        have ho2 := HO.out.outer.kept hg2 (.inr (fun e => by
          have h1 : (Value.slice a' l c').ownBlock = some g := by rw [← e]; rfl
          exact hgb g h1 rfl))
        have hco : w2.cell? ⟨g, k * 3 + 1, none⟩ = some u' := (ho2.cellAt _ (by omega)).trans HU.out
        have hfo : w2.frozen? ⟨g, k * 3 + 1, none⟩ = false := ho2.frozenAt _
        have hco' : w2.cell? ⟨g, k * 3 + 2, none⟩ = some u'' := (ho2.cellAt _ (by omega)).trans HU'.out
        have hfo' : w2.frozen? ⟨g, k * 3 + 2, none⟩ = false := ho2.frozenAt _
        have hcx2 : w2.cell? ⟨g, k * 3, none⟩ = some (.slice a' l c') := (ho2.cellAt _ (by omega)).trans HK.out
        have HM := Hid.mk hmk
        have hB := HO.out.blocks
        have HA : Hid (Apart lo hi w ((w2.setCell ⟨g, k * 3 + 1, none⟩ (.int .i64 (m + T + l))).setCell ⟨g, k * 3 + 2, none⟩ (.int .i64 (m + T + l + 1)))) :=
          (HAP.out.trans (Apart.grown hg2 (fun b hb => hB.2 k hlt b (by rw [blkV_of HK.out]; exact hb)))).trans
            (Apart.grown (row := some g) ⟨rfl, rfl, rfl, by simp [World.setCell], fun j _ hn => (Below.heap_setCell _ _ _ j (fun e => hn (by rw [e]))).trans (Below.heap_setCell _ _ _ j (fun e => hn (by rw [e])))⟩ (fun b hb => by have := hB.1 g rfl; simp at hb; omega))
        clear hmk ho2 hgb hB hr2 hg2 k3 hcx HO HK HU HU'
        go_wp2
        go_roundw
        case rel => exact ⟨k + 1, _, by omega, by go_num, by have := HTS.out; have := HT.out; go_num, HM.out, HA.out⟩
        case measure => simp [intOf]; omega
      · obtain rfl : k = n := by omega
        have hTm : vmk ts k ≤ 2097152 := ht
        have ho' : OwnV wr lo hi 35 3 (some ⟨g, 0, none⟩) k c (markV m ts) cells := by
          rw [← mixV_all, hz]; exact ho
        go_wp2
        go_ret
        exact ⟨rfl, ⟨cells, ho'⟩, hap⟩

set_option maxHeartbeats 2000000 in
theorem heldGroupS_any (a : Option Addr) (n c : Nat) (ts : List GRow) (m : Int) (w : World) (hz : ts.length = n) (hs : ∀ i, i < n → (gat ts i).1.length ≤ 1048576) (ht : vmk ts n ≤ 2097152) (h0 : 0 ≤ m) (h1 : m ≤ 268435456) (ha : AtV w a (markV m ts)) :
    Calls Try.prog 36 #[.slice a n c, .int .i64 m] w fun e w' => e = .returned (.int .i64 (m + vmk ts n)) ∧ Below w.heap.size w w' := by
  have hn : n ≤ 2097152 := by have := vmk_len ts n (by omega); omega
  by_cases hn0 : n = 0
  · subst hn0
    obtain rfl := List.eq_nil_of_length_eq_zero hz
    go_enter Try.func36, Try.ntmps36
    go_wp2
    refine wp_loop_rounds 1 ?_
    rw [rounds_succ]
    go_wp2
    go_ret
    exact ⟨ret_int (by simp [vmk]), Below.refl _ _⟩
  · go_enter Try.func36, Try.ntmps36
    go_wp2
    go_loopw [1, 5] (fun q i wr => ∃ (k : Nat), k ≤ n ∧ i = .int .i64 k ∧ q = .int .i64 (m + vmk ts k) ∧ Below w.heap.size w wr) (fun _ i _ => n - (intOf i).toNat)
    case atStart => exact ⟨0, Nat.zero_le _, rfl, by simp [vmk_zero], Below.refl _ _⟩
    case round =>
      obtain ⟨k, hk, rfl, rfl, hbw⟩ := hrel
      by_cases hlt : k < n
      · obtain ⟨b, off, rfl, hc⟩ := (ha.below hbw).some (by rw [markV_length]; omega)
        obtain ⟨q, d, hcx, hwx, hvx, _, hat⟩ := hc k (by rw [markV_length]; omega)
        rw [markV_at m ts k (by omega)] at hcx hwx hvx hat
        simp only [marks_length] at hcx
        have hsm := hs k hlt
        have hts := vmk_succ ts k (by omega)
        have htm := vmk_mono ts (k + 1) n (by omega)
        obtain ⟨l, hl⟩ : ∃ l, (gat ts k).1.length = l := ⟨_, rfl⟩
        simp only [hl] at hcx hwx hvx hat hsm hts
        obtain ⟨T, hT⟩ : ∃ T : Nat, vmk ts k = T := ⟨_, rfl⟩
        rw [hT] at hwx hvx hat ⊢
        have hb1 : m + (T : Int) ≤ 1073741824 := by omega
        have hb0 : 0 ≤ m + (T : Int) := by omega
        have HT := Hid.mk hT
        have HTS := Hid.mk hts
        have hki : (k : Int) < (n : Int) := by omega
        have hnn : ¬ m + (T : Int) + l < 0 := by omega
        clear hc hl hT hts htm ha
        go_wp2_with fail
        refine (heldIntS_any' _ _ _ _ _ hsm hb0 hb1 hat).mono ?_
        rintro e w2 ⟨rfl, hb2⟩
        have e1 := cell_later hb2 hwx
        have e3 := cell_later hb2 hvx
        have e2 := cell_later hb2 hcx
        have HB := Hid.mk (hbw.trans (hb2.mono hbw.size))
        clear hb2 hwx hvx hcx hat hbw
        go_wp2
        go_roundw
        case rel => exact ⟨k + 1, by omega, by go_num, by have := HTS.out; have := HT.out; go_num, HB.out⟩
        case measure => simp [intOf]; omega
      · obtain rfl : k = n := by omega
        have hTm : vmk ts k ≤ 2097152 := ht
        go_wp2
        go_ret
        exact ⟨rfl, hbw⟩

end Go.Proofs.Ytlfljfmhhnoinaa

/- Contracts of the laws' helpers over groups: eqGroup, eqGroupS. -/
namespace Go.Proofs.Ytlfljfmhhnoinaa
open Go.RowKit

set_option maxHeartbeats 1000000 in
theorem eqGroup_any (a a' : Option Addr) (n n' c c' : Nat) (zs zs' : List Int) (x x' y y' : Int) (w : World) (hz : zs.length = n) (hz' : zs'.length = n') (hn : n ≤ 1048576) (hn' : n' ≤ 1048576) (ha : At w a zs) (ha' : At w a' zs') :
    Calls Try.prog 18 #[.agg #[.slice a n c, .int .i64 x, .int .i64 y], .agg #[.slice a' n' c', .int .i64 x', .int .i64 y']] w fun e w' => e = .returned (.bool (decide ((zs, x, y) = (zs', x', y')))) ∧ Below w.heap.size w w' := by
  obtain ⟨W, hW⟩ : ∃ W, W = (w.alloc (.cells #[.slice a n c, .int .i64 x, .int .i64 y] 35)).alloc (.cells #[.slice a' n' c', .int .i64 x', .int .i64 y'] 35) := ⟨_, rfl⟩
  have B : Below w.heap.size w W := by rw [hW]; exact ((Below.refl _ _).alloc (Nat.le_refl _) _).alloc (by simp) _
  have HA : At W a zs := ha.below B
  have HA' : At W a' zs' := ha'.below B
  have c1 : W.cell? ⟨w.heap.size, 0, none⟩ = some (.slice a n c) := by rw [hW]; simp
  have c2 : W.cell? ⟨w.heap.size + 1, 0, none⟩ = some (.slice a' n' c') := by rw [hW]; simp
  have d1 : W.cell? ⟨w.heap.size, 1, none⟩ = some (.int .i64 x) := by rw [hW]; simp
  have d2 : W.cell? ⟨w.heap.size + 1, 1, none⟩ = some (.int .i64 x') := by rw [hW]; simp
  have f1 : W.cell? ⟨w.heap.size, 2, none⟩ = some (.int .i64 y) := by rw [hW]; simp
  have f2 : W.cell? ⟨w.heap.size + 1, 2, none⟩ = some (.int .i64 y') := by rw [hW]; simp
  clear ha ha'
  obtain ⟨e0, HE⟩ : ∃ e0 : Bool, Hid (decide (zs = zs') = e0) := ⟨_, Hid.mk rfl⟩
  obtain ⟨ex, hx⟩ : ∃ ex : Bool, (x != x') = ex := ⟨_, rfl⟩
  obtain ⟨ey, hy⟩ : ∃ ey : Bool, (y != y') = ey := ⟨_, rfl⟩
  have HD : Hid (decide ((zs, x, y) = (zs', x', y')) = (e0 && !ex && !ey)) := by
    show _ = _
    rw [← HE.out, ← hx, ← hy]
    by_cases h1 : zs = zs' <;> by_cases h2 : x = x' <;> by_cases h3 : y = y' <;> simp [h1, h2, h3]
  cases e0 <;> cases ex <;> cases ey
  all_goals
    go_enter Try.func18, Try.ntmps18
    go_wp2_with fail
    rw [← hW]
    clear hW
    refine (eqRow_any _ _ _ _ _ _ zs zs' _ hz hz' hn hn' HA HA').mono ?_
    rintro e w1 ⟨rfl, hb⟩
    rw [HE.out]
    have e1 := cell_later hb d1
    have e2 := cell_later hb d2
    have e3 := cell_later hb f1
    have e4 := cell_later hb f2
    clear d1 d2 c1 c2 f1 f2 HA HA'
    go_wp2
    go_ret
    exact ⟨ret_bool HD.out.symm, B.trans (hb.mono B.size)⟩

set_option maxHeartbeats 2000000 in
theorem eqGroupS_any (a a' : Option Addr) (n n' c c' : Nat) (ts ts' : List GRow) (w : World) (hz : ts.length = n) (hz' : ts'.length = n') (hn : n ≤ 1048576) (hn' : n' ≤ 1048576)
    (hs : ∀ i, i < n → (gat ts i).1.length ≤ 1048576) (hs' : ∀ i, i < n' → (gat ts' i).1.length ≤ 1048576) (ha : AtV w a ts) (ha' : AtV w a' ts') :
    Calls Try.prog 13 #[.slice a n c, .slice a' n' c'] w fun e w' => e = .returned (.bool (decide (ts = ts'))) ∧ Below w.heap.size w w' := by
  by_cases hnn : n = n'
  · subst hnn
    by_cases h0 : n = 0
    · subst h0
      obtain rfl := List.eq_nil_of_length_eq_zero hz
      obtain rfl := List.eq_nil_of_length_eq_zero hz'
      go_enter Try.func13, Try.ntmps13
      go_wp2
      refine wp_loop_rounds 1 ?_
      rw [rounds_succ]
      go_wp2
      go_ret
      exact ⟨by simp, Below.refl _ _⟩
    · go_enter Try.func13, Try.ntmps13
      go_wp2
      go_loopw [5] (fun i wr => ∃ (k : Nat), k ≤ n ∧ i = .int .i64 k ∧ ts.take k = ts'.take k ∧ Below w.heap.size w wr) (fun i _ => n - (intOf i).toNat)
      case atStart => exact ⟨0, Nat.zero_le _, rfl, rfl, Below.refl _ _⟩
      case round =>
        obtain ⟨k, hk, rfl, ht, hbw⟩ := hrel
        by_cases hlt : k < n
        · obtain ⟨b, off, rfl, hc⟩ := (ha.below hbw).some (by omega)
          obtain ⟨b', off', rfl, hc'⟩ := (ha'.below hbw).some (by omega)
          obtain ⟨q, d, hcx, hwx, hvx, _, hat⟩ := hc k (by omega)
          obtain ⟨q', d', hcy, hwy, hvy, _, hat'⟩ := hc' k (by omega)
          have hm := hs k (by omega)
          have hm' := hs' k (by omega)
          have HT : Hid (gat ts k = gat ts' k → ts.take (k + 1) = ts'.take (k + 1)) := fun e => by
            rw [vtake_succ ts k (by omega), vtake_succ ts' k (by omega), ht, e]
          have HN : Hid (gat ts k ≠ gat ts' k → ts ≠ ts') := vne_of
          generalize gat ts k = Y at *
          generalize gat ts' k = Y' at *
          obtain ⟨ys, x, y⟩ := Y
          obtain ⟨ys', x', y'⟩ := Y'
          simp only at hcx hcy hwx hwy hvx hvy hat hat' hm hm'
          obtain ⟨m, hmm⟩ : ∃ m, ys.length = m := ⟨_, rfl⟩
          obtain ⟨m', hmm'⟩ : ∃ m, ys'.length = m := ⟨_, rfl⟩
          rw [hmm] at hcx hm
          rw [hmm'] at hcy hm'
          have HM := Hid.mk hmm
          have HM' := Hid.mk hmm'
          have hki : (k : Int) < (n : Int) := by omega
          clear ht hc hc' hmm hmm' ha ha' hs hs'
          cases hbl : decide ((ys, x, y) = (ys', x', y')) with
          | true =>
            have HD := Hid.mk hbl
            have HE := Hid.mk (of_decide_eq_true hbl)
            clear hbl
            go_wp2_with fail
            go_region_held3 (fun w' => w'.cell? ⟨b, off + k * 3, none⟩ = some (.slice q m d) ∧ w'.cell? ⟨b, off + k * 3 + 1, none⟩ = some (.int .i64 x) ∧ w'.cell? ⟨b, off + k * 3 + 2, none⟩ = some (.int .i64 y) ∧ w'.cell? ⟨b', off' + k * 3, none⟩ = some (.slice q' m' d') ∧ w'.cell? ⟨b', off' + k * 3 + 1, none⟩ = some (.int .i64 x') ∧ w'.cell? ⟨b', off' + k * 3 + 2, none⟩ = some (.int .i64 y')) (refine ⟨?_, ?_, ?_, ?_, ?_, ?_⟩ <;> assumption)
              (first | (go_at_call 18; refine (eqGroup_any _ _ _ _ _ _ ys ys' _ _ _ _ _ HM.out HM'.out hm hm' hat.drew hat'.drew).mono ?_; rintro e w2 ⟨rfl, hb2⟩; rw [HD.out]; have e1 := cell_later hb2 hcx; have e2 := cell_later hb2 hcy; have e3 := cell_later hb2 hwx; have e4 := cell_later hb2 hwy; have e5 := cell_later hb2 hvx; have e6 := cell_later hb2 hvy))
            go_wp2
            go_roundw
            case rel => exact ⟨k + 1, by omega, by go_num, HT.out HE.out, hbw.drew.trans (hb2.mono hbw.size)⟩
            case measure => simp [intOf]; omega
          | false =>
            have HD := Hid.mk hbl
            have HE := Hid.mk (of_decide_eq_false hbl)
            clear hbl
            go_wp2_with fail
            go_region_held3 (fun w' => w'.cell? ⟨b, off + k * 3, none⟩ = some (.slice q m d) ∧ w'.cell? ⟨b, off + k * 3 + 1, none⟩ = some (.int .i64 x) ∧ w'.cell? ⟨b, off + k * 3 + 2, none⟩ = some (.int .i64 y) ∧ w'.cell? ⟨b', off' + k * 3, none⟩ = some (.slice q' m' d') ∧ w'.cell? ⟨b', off' + k * 3 + 1, none⟩ = some (.int .i64 x') ∧ w'.cell? ⟨b', off' + k * 3 + 2, none⟩ = some (.int .i64 y')) (refine ⟨?_, ?_, ?_, ?_, ?_, ?_⟩ <;> assumption)
              (first | (go_at_call 18; refine (eqGroup_any _ _ _ _ _ _ ys ys' _ _ _ _ _ HM.out HM'.out hm hm' hat.drew hat'.drew).mono ?_; rintro e w2 ⟨rfl, hb2⟩; rw [HD.out]; have e1 := cell_later hb2 hcx; have e2 := cell_later hb2 hcy; have e3 := cell_later hb2 hwx; have e4 := cell_later hb2 hwy; have e5 := cell_later hb2 hvx; have e6 := cell_later hb2 hvy))
            go_wp2
            go_ret
            exact ⟨ret_bool (decide_eq_false (HN.out HE.out)).symm, hbw.drew.trans (hb2.mono hbw.size)⟩
        · go_wp2
          go_ret
          exact ⟨ret_bool (decide_eq_true (vtake_all (by omega) (by omega) ht)).symm, hbw⟩
  · go_enter Try.func13, Try.ntmps13
    go_wp2
    go_ret
    exact ⟨ret_bool (decide_eq_false (fun e => hnn (by rw [← hz, ← hz', e]))).symm, Below.refl _ _⟩

end Go.Proofs.Ytlfljfmhhnoinaa
