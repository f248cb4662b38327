/- Contracts of the laws' helpers that mark tables: markWeightedS, markTable, heldWeightedS, heldTable. -/
import Derived.Test.YtpnaoahlfhbbmaaTableH
namespace Go.Proofs.Ytpnaoahlfhbbmaa
open Go.RowKit

/-- The first k rows as the laws mark them, the others as they were. -/
def mixW (m : Int) (ts : List WRow) (k : Nat) : List WRow := (List.range ts.length).map fun i => if i < k then (marks (m + wtot ts i) (wat ts i).1.length, m + wtot ts i + (wat ts i).1.length) else wat ts i
theorem mixW_length (m : Int) (ts : List WRow) (k : Nat) : (mixW m ts k).length = ts.length := by simp [mixW]
theorem mixW_at (m : Int) (ts : List WRow) (k i : Nat) (h : i < ts.length) : wat (mixW m ts k) i = if i < k then (marks (m + wtot ts i) (wat ts i).1.length, m + wtot ts i + (wat ts i).1.length) else wat ts i := by
  simp [mixW, h]
theorem mixW_zero (m : Int) (ts : List WRow) : mixW m ts 0 = ts := by
  apply List.ext_getElem?
  intro i
  by_cases h : i < ts.length
  · simp [mixW, h]
  · simp [mixW, h]
theorem mixW_all (m : Int) (ts : List WRow) : mixW m ts ts.length = markW m ts := by
  unfold mixW markW
  exact List.map_congr_left fun i hi => if_pos (List.mem_range.1 hi)
theorem mixW_len (m : Int) (ts : List WRow) (k i : Nat) (h : i < ts.length) : (wat (mixW m ts k) i).1.length = (wat ts i).1.length := by
  rw [mixW_at m ts k i h]
  by_cases e : i < k
  · rw [if_pos e]; exact marks_length _ _
  · rw [if_neg e]

theorem OwnWk.marked {w w2 : World} {lo hi : Nat} {te ti : TypeId} {g n c k l : Nat} {ts : List WRow} {cells : List Value} {m : Int} {a' : Option Addr} {c' : Nat} (h : OwnW w lo hi te ti (some ⟨g, 0, none⟩) n c (mixW m ts k) cells) (hz : ts.length = n) (hk : k < n)
    (hl : (wat ts k).1.length = l) (hcell : cells[k * 2]? = some (.slice a' l c')) (hrow : w2.ownsRow lo ti 1 (.slice a' l c') l ((marks (m + wtot ts k) l).map (.int .i64))) (hg : w.grownBy w2 (Value.slice a' l c').ownBlock) :
    OwnW (w2.setCell ⟨g, k * 2 + 1, none⟩ (.int .i64 (m + wtot ts k + l))) lo hi te ti (some ⟨g, 0, none⟩) n c (mixW m ts (k + 1)) (cells.set (k * 2 + 1) (.int .i64 (m + wtot ts k + l))) := by
  have hbk : blkW cells k = (Value.slice a' l c').ownBlock := blkW_of hcell
  have hl2 := h.outer.1
  have hgk : ∀ b, (Value.slice a' l c').ownBlock = some b → g ≠ b := fun b hb e => by
    have := (h.rowLt k hk b (by rw [hbk]; exact hb)).2
    simp [Value.ownBlock, e] at this
  have ho2 : w2.ownsRow lo te 2 (.slice (some ⟨g, 0, none⟩) n c) n cells := h.outer.kept hg (.inr (fun e => by
    have h1 : (Value.slice a' l c').ownBlock = some g := by rw [← e]; rfl
    exact hgk g h1 rfl))
  have hset : ∀ i, (cells.set (k * 2 + 1) (.int .i64 (m + wtot ts k + l)))[i * 2]? = cells[i * 2]? := fun i => by rw [List.getElem?_set_ne (by omega)]
  have hbs : ∀ i, blkW (cells.set (k * 2 + 1) (.int .i64 (m + wtot ts k + l))) i = blkW cells i := fun i => by simp only [blkW, List.getD, hset i]
  have hgs : w2.grownBy (w2.setCell ⟨g, k * 2 + 1, none⟩ (.int .i64 (m + wtot ts k + l))) (some g) :=
    ⟨rfl, rfl, rfl, by simp [World.setCell], fun j _ hn => Below.heap_setCell _ _ _ j (fun e => hn (by rw [e]))⟩
  refine ⟨by rw [mixW_length]; exact hz, by have := h.top; have := hg.size; simp [World.setCell]; omega, (ho2.stored _ _).1, h.outerLt, fun i hi => ?_, fun i hi b hb => ?_, fun i j hi hj hij b hb => ?_⟩
  · by_cases e : i = k
    · subst e
      rw [mixW_at m ts (i + 1) i (by omega), if_pos (by omega)]
      refine ⟨a', c', ?_, ?_, ?_⟩
      · rw [hset]; simp only [marks_length, hl]; exact hcell
      · rw [List.getElem?_set_self (by omega), hl]
      · simp only [marks_length, hl]
        refine hrow.kept hgs ?_
        cases hv : (Value.slice a' l c').ownBlock with
        | none => exact .inl rfl
        | some b => exact .inr (fun e => hgk b hv (by simpa using e.symm))
    · obtain ⟨a1, c1, k1, k2, k3⟩ := h.row i hi
      have hm1 : wat (mixW m ts (k + 1)) i = wat (mixW m ts k) i := by
        rw [mixW_at m ts (k + 1) i (by omega), mixW_at m ts k i (by omega)]
        by_cases e1 : i < k
        · rw [if_pos e1, if_pos (by omega)]
        · rw [if_neg e1, if_neg (by omega)]
      rw [hm1]
      refine ⟨a1, c1, by rw [hset]; exact k1, by rw [List.getElem?_set_ne (by omega)]; exact k2, (k3.kept hg ?_).kept hgs ?_⟩
      · cases hv : (Value.slice a1 (wat (mixW m ts k) i).1.length c1).ownBlock with
        | none => exact .inl rfl
        | some b => exact .inr (fun e' => h.apart i k hi hk e b (by rw [blkW_of k1]; exact hv) (by rw [hbk]; exact e'.symm))
      · cases hv : (Value.slice a1 (wat (mixW m ts k) i).1.length c1).ownBlock with
        | none => exact .inl rfl
        | some b => exact .inr (fun e' => by have := (h.rowLt i hi b (by rw [blkW_of k1]; exact hv)).2; simp [Value.ownBlock] at e' this; omega)
  · rw [hbs] at hb; exact h.rowLt i hi b hb
  · rw [hbs] at hb ⊢; exact h.apart i j hi hj hij b hb

set_option maxHeartbeats 2000000 in
theorem markWeightedS_any (lo hi : Nat) (a : Option Addr) (n c : Nat) (ts : List WRow) (cells : List Value) (m : Int) (w : World) (hs : ∀ i, i < n → (wat ts i).1.length ≤ 1048576) (ht : wtot ts n ≤ 1048576) (h0 : 0 ≤ m) (h1 : m ≤ 268435456)
    (ho : OwnW w lo hi 71 3 a n c ts cells) :
    Calls Try.prog 38 #[.slice a n c, .int .i64 m] w fun e w' => e = .returned (.int .i64 (m + wtot ts n)) ∧ (∃ cells', OwnW w' lo hi 71 3 a n c (markW m ts) cells') ∧ Apart lo hi w w' := by
  have hz := ho.len
  have hn : n ≤ 1048576 := by have := wtot_len ts n (by omega); omega
  by_cases hn0 : n = 0
  · subst hn0
    obtain rfl := List.eq_nil_of_length_eq_zero hz
    go_enter Try.func38, Try.ntmps38
    go_wp2
    refine wp_loop_rounds 1 ?_
    rw [rounds_succ]
    go_wp2
    go_ret
    exact ⟨ret_int (by simp [wtot]), ⟨cells, ho⟩, Apart.refl _ _ _⟩
  · obtain ⟨g, hgv⟩ : ∃ g, a = some ⟨g, 0, none⟩ := by
      rcases ho.outer.2 with ⟨_, h⟩ | ⟨g, cap, cur, hv, _⟩
      · omega
      · simp only [Value.slice.injEq, true_and] at hv
        exact ⟨g, hv.1⟩
    subst hgv
    have ho0 : OwnW w lo hi 71 3 (some ⟨g, 0, none⟩) n c (mixW m ts 0) cells := by rw [mixW_zero]; exact ho
    clear ho
    go_enter Try.func38, Try.ntmps38
    go_wp2
    go_loopw [1, 5] (fun q i wr => ∃ (k : Nat) (cells : List Value), k ≤ n ∧ i = .int .i64 k ∧ q = .int .i64 (m + wtot ts k) ∧ OwnW wr lo hi 71 3 (some ⟨g, 0, none⟩) n c (mixW m ts k) cells ∧ Apart lo hi w wr) (fun _ i _ => n - (intOf i).toNat)
    case atStart => exact ⟨0, cells, Nat.zero_le _, rfl, by simp [wtot_zero], ho0, Apart.refl _ _ _⟩
    case round =>
      clear ho0 cells
      obtain ⟨k, cells, hk, rfl, rfl, ho, hap⟩ := hrel
      by_cases hlt : k < n
      · obtain ⟨a', c', k1, k2, k3⟩ := ho.row k hlt
        rw [mixW_len m ts k k (by omega)] at k1 k3
        have hsm := hs k hlt
        have hts := wtot_succ ts k (by omega)
        have htm := wtot_mono ts (k + 1) n (by omega)
        obtain ⟨l, hl⟩ : ∃ l, (wat ts k).1.length = l := ⟨_, rfl⟩
        rw [hl] at k1 k3 hsm hts
        obtain ⟨T, hT⟩ : ∃ T : Nat, wtot ts k = T := ⟨_, rfl⟩
        have hb1 : m + (T : Int) ≤ 1073741824 := by omega
        have hb0 : 0 ≤ m + (T : Int) := by omega
        have hout := ho.outer
        have hln := hout.1
        have hcx : wr.cell? ⟨g, k * 2, none⟩ = some (.slice a' l c') := (hout.cellAt _ (by omega)).trans k1
        have HO := Hid.mk ho
        have HK := Hid.mk k1
        have HL := Hid.mk hl
        have HT := Hid.mk hT
        have HTS := Hid.mk hts
        have HAP := Hid.mk hap
        obtain ⟨u', hu'⟩ : ∃ u, cells[k * 2 + 1]? = some u := ⟨_, List.getElem?_eq_getElem (by omega)⟩
        have HU := Hid.mk hu'
        rw [hT]
        have hki : (k : Int) < (n : Int) := by omega
        clear k1 k2 hl hT hts htm hap hu' ho hout
        go_wp2_with fail
        refine (markIntS_any _ _ _ _ _ _ _ hsm hb0 hb1 k3).mono ?_
        rintro e w2 ⟨rfl, hr2, hg2⟩
        have hmk := HO.out.marked (m := m) (ts := ts) (by have := HO.out.len; rwa [mixW_length] at this) hlt HL.out HK.out (by rw [HT.out]; exact hr2) hg2
        rw [HT.out] at hmk
        have hgb : ∀ b, (Value.slice a' l c').ownBlock = some b → g ≠ b := fun b hb e => by
          have := (HO.out.rowLt k hlt b (by rw [blkW_of HK.out]; exact hb)).2
          simp [Value.ownBlock, e] at this
        have ho2 := HO.out.outer.kept hg2 (.inr (fun e => by
          have h1 : (Value.slice a' l c').ownBlock = some g := by rw [← e]; rfl
          exact hgb g h1 rfl))
        have hco : w2.cell? ⟨g, k * 2 + 1, none⟩ = some u' := (ho2.cellAt _ (by omega)).trans HU.out
        have hfo : w2.frozen? ⟨g, k * 2 + 1, none⟩ = false := ho2.frozenAt _
        have hcx2 : w2.cell? ⟨g, k * 2, none⟩ = some (.slice a' l c') := (ho2.cellAt _ (by omega)).trans HK.out
        have HM := Hid.mk hmk
        have hB := HO.out.blocks
        have HA : Hid (Apart lo hi w (w2.setCell ⟨g, k * 2 + 1, none⟩ (.int .i64 (m + T + l)))) :=
          (HAP.out.trans (Apart.grown hg2 (fun b hb => hB.2 k hlt b (by rw [blkW_of HK.out]; exact hb)))).trans
            (Apart.grown (row := some g) ⟨rfl, rfl, rfl, by simp [World.setCell], fun j _ hn => Below.heap_setCell _ _ _ j (fun e => hn (by rw [e]))⟩ (fun b hb => by have := hB.1 g rfl; simp at hb; omega))
        clear hmk ho2 hgb hB hr2 hg2 k3 hcx HO HK HU
        go_wp2
        go_roundw
        case rel => exact ⟨k + 1, _, by omega, by go_num, by have := HTS.out; have := HT.out; go_num, HM.out, HA.out⟩
        case measure => simp [intOf]; omega
      · obtain rfl : k = n := by omega
        have hTm : wtot ts k ≤ 1048576 := ht
        have ho' : OwnW wr lo hi 71 3 (some ⟨g, 0, none⟩) k c (markW m ts) cells := by
          rw [← mixW_all, hz]; exact ho
        go_wp2
        go_ret
        exact ⟨rfl, ⟨cells, ho'⟩, hap⟩

set_option maxHeartbeats 2000000 in
theorem heldWeightedS_any (a : Option Addr) (n c : Nat) (ts : List WRow) (m : Int) (w : World) (hz : ts.length = n) (hs : ∀ i, i < n → (wat ts i).1.length ≤ 1048576) (ht : wtot ts n ≤ 1048576) (h0 : 0 ≤ m) (h1 : m ≤ 268435456) (ha : AtW w a (markW m ts)) :
    Calls Try.prog 40 #[.slice a n c, .int .i64 m] w fun e w' => e = .returned (.int .i64 (m + wtot ts n)) ∧ Below w.heap.size w w' := by
  have hn : n ≤ 1048576 := by have := wtot_len ts n (by omega); omega
  by_cases hn0 : n = 0
  · subst hn0
    obtain rfl := List.eq_nil_of_length_eq_zero hz
    go_enter Try.func40, Try.ntmps40
    go_wp2
    refine wp_loop_rounds 1 ?_
    rw [rounds_succ]
    go_wp2
    go_ret
    exact ⟨ret_int (by simp [wtot]), Below.refl _ _⟩
  · go_enter Try.func40, Try.ntmps40
    go_wp2
    go_loopw [1, 5] (fun q i wr => ∃ (k : Nat), k ≤ n ∧ i = .int .i64 k ∧ q = .int .i64 (m + wtot ts k) ∧ Below w.heap.size w wr) (fun _ i _ => n - (intOf i).toNat)
    case atStart => exact ⟨0, Nat.zero_le _, rfl, by simp [wtot_zero], Below.refl _ _⟩
    case round =>
      obtain ⟨k, hk, rfl, rfl, hbw⟩ := hrel
      by_cases hlt : k < n
      · obtain ⟨b, off, rfl, hc⟩ := (ha.below hbw).some (by rw [markW_length]; omega)
        obtain ⟨q, d, hcx, hwx, _, hat⟩ := hc k (by rw [markW_length]; omega)
        rw [markW_at m ts k (by omega)] at hcx hwx hat
        simp only [marks_length] at hcx
        have hsm := hs k hlt
        have hts := wtot_succ ts k (by omega)
        have htm := wtot_mono ts (k + 1) n (by omega)
        obtain ⟨l, hl⟩ : ∃ l, (wat ts k).1.length = l := ⟨_, rfl⟩
        simp only [hl] at hcx hwx hat hsm hts
        obtain ⟨T, hT⟩ : ∃ T : Nat, wtot ts k = T := ⟨_, rfl⟩
        rw [hT] at hwx hat ⊢
        have hb1 : m + (T : Int) ≤ 1073741824 := by omega
        have hb0 : 0 ≤ m + (T : Int) := by omega
        have HT := Hid.mk hT
        have HTS := Hid.mk hts
        have hki : (k : Int) < (n : Int) := by omega
        have hnn : ¬ m + (T : Int) + l < 0 := by omega
        clear hc hl hT hts htm ha
        go_wp2_with fail
        refine (heldIntS_any' _ _ _ _ _ hsm hb0 hb1 hat).mono ?_
        rintro e w2 ⟨rfl, hb2⟩
        have e1 := cell_later hb2 hwx
        have e2 := cell_later hb2 hcx
        have HB := Hid.mk (hbw.trans (hb2.mono hbw.size))
        clear hb2 hwx hcx hat hbw
        go_wp2
        go_roundw
        case rel => exact ⟨k + 1, by omega, by go_num, by have := HTS.out; have := HT.out; go_num, HB.out⟩
        case measure => simp [intOf]; omega
      · obtain rfl : k = n := by omega
        have hTm : wtot ts k ≤ 1048576 := ht
        go_wp2
        go_ret
        exact ⟨rfl, hbw⟩

theorem markTable_any (lo hi : Nat) (a : Option Addr) (n c : Nat) (ts : List WRow) (p : Int) (cells : List Value) (m : Int) (w : World) (hs : ∀ i, i < n → (wat ts i).1.length ≤ 1048576) (ht : wtot ts n ≤ 1048576) (h0 : 0 ≤ m) (h1 : m ≤ 268435456)
    (ho : OwnW w lo hi 71 3 a n c ts cells) :
    Calls Try.prog 16 #[.agg #[.int .i64 p, .slice a n c], .int .i64 m] w fun e w' => e = .returned (.int .i64 (m + wtot ts n)) ∧ (∃ cells', OwnW w' lo hi 71 3 a n c (markW m ts) cells') ∧ Apart lo hi w w' := by
  have HO := ho.alloc (.cells #[.int .i64 p, .slice a n c] 36)
  have hAp : Apart lo hi w (w.alloc (.cells #[.int .i64 p, .slice a n c] 36)) := Apart.grown (World.grownBy_alloc w _ none) (fun k hk => by cases hk)
  clear ho
  go_enter Try.func16, Try.ntmps16
  go_wp2_with fail
  refine (markWeightedS_any lo hi _ _ _ ts cells _ _ hs ht h0 h1 HO).mono ?_
  rintro e w1 ⟨rfl, ho1, hap⟩
  go_wp2
  go_ret
  exact ⟨rfl, ho1, hAp.trans hap⟩

end Go.Proofs.Ytpnaoahlfhbbmaa
