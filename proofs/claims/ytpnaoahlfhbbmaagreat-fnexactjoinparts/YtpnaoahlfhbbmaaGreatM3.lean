/- Several texts of one proof, in build order: TableM, TableE, Plain, PlainT. -/
import Derived.Test.YtpnaoahlfhbbmaaGreatM2
import Derived.Test.YtpnaoahlfhbbmaaGreatM1

/- Contracts of the laws' helpers that mark tables: markWeightedS, markTable, heldWeightedS, heldTable. -/
namespace Go.Proofs.YtpnaoahlfhbbmaaGreat
open Go.RowKit

/-- The first k rows as the laws mark them, the others as they were. -/
def mixW (m : Int) (ts : List WRow) (k : Nat) : List WRow := (List.range ts.length).map fun i => if i < k then (marks (m + wtot ts i) (wat ts i).1.length, m + wtot ts i + (wat ts i).1.length) else wat ts i
theorem mixW_length (m : Int) (ts : List WRow) (k : Nat) : (mixW m ts k).length = ts.length := by simp [mixW]
theorem mixW_at (m : Int) (ts : List WRow) (k i : Nat) (h : i < ts.length) : wat (mixW m ts k) i = if i < k then (marks (m + wtot ts i) (wat ts i).1.length, m + wtot ts i + (wat ts i).1.length) else wat ts i := by
  simp [mixW, h]
theorem mixW_zero (m : Int) (ts : List WRow) : mixW m ts 0 = ts := by
  apply List.ext_getElem?
  intro i
  by_cases h : i < ts.length
  · simp [mixW, h]
  · simp [mixW, h]
theorem mixW_all (m : Int) (ts : List WRow) : mixW m ts ts.length = markW m ts := by
  unfold mixW markW
  exact List.map_congr_left fun i hi => if_pos (List.mem_range.1 hi)
theorem mixW_len (m : Int) (ts : List WRow) (k i : Nat) (h : i < ts.length) : (wat (mixW m ts k) i).1.length = (wat ts i).1.length := by
  rw [mixW_at m ts k i h]
  by_cases e : i < k
  · rw [if_pos e]; exact marks_length _ _
  · rw [if_neg e]

theorem OwnWk.marked {w w2 : World} {lo hi : Nat} {te ti : TypeId} {g n c k l : Nat} {ts : List WRow} {cells : List Value} {m : Int} {a' : Option Addr} {c' : Nat} (h : OwnW w lo hi te ti (some ⟨g, 0, none⟩) n c (mixW m ts k) cells) (hz : ts.length = n) (hk : k < n)
    (hl : (wat ts k).1.length = l) (hcell : cells[k * 2]? = some (.slice a' l c')) (hrow : w2.ownsRow lo ti 1 (.slice a' l c') l ((marks (m + wtot ts k) l).map (.int .i64))) (hg : w.grownBy w2 (Value.slice a' l c').ownBlock) :
    OwnW (w2.setCell ⟨g, k * 2 + 1, none⟩ (.int .i64 (m + wtot ts k + l))) lo hi te ti (some ⟨g, 0, none⟩) n c (mixW m ts (k + 1)) (cells.set (k * 2 + 1) (.int .i64 (m + wtot ts k + l))) := by
  have hbk : blkW cells k = (Value.slice a' l c').ownBlock := blkW_of hcell
  have hl2 := h.outer.1
  have hgk : ∀ b, (Value.slice a' l c').ownBlock = some b → g ≠ b := fun b hb e => by
    have := (h.rowLt k hk b (by rw [hbk]; exact hb)).2
    simp [Value.ownBlock, e] at this
  have ho2 : w2.ownsRow lo te 2 (.slice (some ⟨g, 0, none⟩) n c) n cells := h.outer.kept hg (.inr (fun e => by
    have h1 : (Value.slice a' l c').ownBlock = some g := by rw [← e]; rfl
    exact hgk g h1 rfl))
  have hset : ∀ i, (cells.set (k * 2 + 1) (.int .i64 (m + wtot ts k + l)))[i * 2]? = cells[i * 2]? := fun i => by rw [List.getElem?_set_ne (by omega)]
  have hbs : ∀ i, blkW (cells.set (k * 2 + 1) (.int .i64 (m + wtot ts k + l))) i = blkW cells i := fun i => by simp only [blkW, List.getD, hset i]
  have hgs : w2.grownBy (w2.setCell ⟨g, k * 2 + 1, none⟩ (.int .i64 (m + wtot ts k + l))) (some g) :=
    ⟨rfl, rfl, rfl, by simp [World.setCell], fun j _ hn => Below.heap_setCell _ _ _ j (fun e => hn (by rw [e]))⟩
  refine ⟨by rw [mixW_length]; exact hz, by have := h.top; have := hg.size; simp [World.setCell]; omega, (ho2.stored _ _).1, h.outerLt, fun i hi => ?_, fun i hi b hb => ?_, fun i j hi hj hij b hb => ?_⟩
  · by_cases e : i = k
    · subst e
      rw [mixW_at m ts (i + 1) i (by omega), if_pos (by omega)]
      refine ⟨a', c', ?_, ?_, ?_⟩
      · rw [hset]; simp only [marks_length, hl]; exact hcell
      · rw [List.getElem?_set_self (by omega), hl]
      · simp only [marks_length, hl]
        refine hrow.kept hgs ?_
        cases hv : (Value.slice a' l c').ownBlock with
        | none => exact .inl rfl
        | some b => exact .inr (fun e => hgk b hv (by simpa using e.symm))
    · obtain ⟨a1, c1, k1, k2, k3⟩ := h.row i hi
      have hm1 : wat (mixW m ts (k + 1)) i = wat (mixW m ts k) i := by
        rw [mixW_at m ts (k + 1) i (by omega), mixW_at m ts k i (by omega)]
        by_cases e1 : i < k
        · rw [if_pos e1, if_pos (by omega)]
        · rw [if_neg e1, if_neg (by omega)]
      rw [hm1]
      refine ⟨a1, c1, by rw [hset]; exact k1, by rw [List.getElem?_set_ne (by omega)]; exact k2, (k3.kept hg ?_).kept hgs ?_⟩
      · cases hv : (Value.slice a1 (wat (mixW m ts k) i).1.length c1).ownBlock with
        | none => exact .inl rfl
        | some b => exact .inr (fun e' => h.apart i k hi hk e b (by rw [blkW_of k1]; exact hv) (by rw [hbk]; exact e'.symm))
      · cases hv : (Value.slice a1 (wat (mixW m ts k) i).1.length c1).ownBlock with
        | none => exact .inl rfl
        | some b => exact .inr (fun e' => by have := (h.rowLt i hi b (by rw [blkW_of k1]; exact hv)).2; simp [Value.ownBlock] at e' this; omega)
  · rw [hbs] at hb; exact h.rowLt i hi b hb
  · rw [hbs] at hb ⊢; exact h.apart i j hi hj hij b hb

set_option maxHeartbeats 2000000 in
theorem markWeightedS_any (lo hi : Nat) (a : Option Addr) (n c : Nat) (ts : List WRow) (cells : List Value) (m : Int) (w : World) (hs : ∀ i, i < n → (wat ts i).1.length ≤ 1048576) (ht : wtot ts n ≤ 1048576) (h0 : 0 ≤ m) (h1 : m ≤ 268435456)
    (ho : OwnW w lo hi 50 3 a n c ts cells) :
    Calls Tryz.prog 34 #[.slice a n c, .int .i64 m] w fun e w' => e = .returned (.int .i64 (m + wtot ts n)) ∧ (∃ cells', OwnW w' lo hi 50 3 a n c (markW m ts) cells') ∧ Apart lo hi w w' := by
  have hz := ho.len
  have hn : n ≤ 1048576 := by have := wtot_len ts n (by omega); omega
  by_cases hn0 : n = 0
  · subst hn0
    obtain rfl := List.eq_nil_of_length_eq_zero hz
    go_enter Tryz.func34, Tryz.ntmps34
    go_wp2
    refine wp_loop_rounds 1 ?_
    rw [rounds_succ]
    go_wp2
    go_ret
    exact ⟨ret_int (by simp [wtot]), ⟨cells, ho⟩, Apart.refl _ _ _⟩
  · obtain ⟨g, hgv⟩ : ∃ g, a = some ⟨g, 0, none⟩ := by
      rcases ho.outer.2 with ⟨_, h⟩ | ⟨g, cap, cur, hv, _⟩
      · omega
      · simp only [Value.slice.injEq, true_and] at hv
        exact ⟨g, hv.1⟩
    subst hgv
    have ho0 : OwnW w lo hi 50 3 (some ⟨g, 0, none⟩) n c (mixW m ts 0) cells := by rw [mixW_zero]; exact ho
    clear ho
    go_enter Tryz.func34, Tryz.ntmps34
    go_wp2
    go_loopw [1, 5] (fun q i wr => ∃ (k : Nat) (cells : List Value), k ≤ n ∧ i = .int .i64 k ∧ q = .int .i64 (m + wtot ts k) ∧ OwnW wr lo hi 50 3 (some ⟨g, 0, none⟩) n c (mixW m ts k) cells ∧ Apart lo hi w wr) (fun _ i _ => n - (intOf i).toNat)
    case atStart => exact ⟨0, cells, Nat.zero_le _, rfl, by simp [wtot_zero], ho0, Apart.refl _ _ _⟩
    case round =>
      clear ho0 cells
      obtain ⟨k, cells, hk, rfl, rfl, ho, hap⟩ := hrel
      by_cases hlt : k < n
      · obtain ⟨a', c', k1, k2, k3⟩ := ho.row k hlt
        rw [mixW_len m ts k k (by omega)] at k1 k3
        have hsm := hs k hlt
        have hts := wtot_succ ts k (by omega)
        have htm := wtot_mono ts (k + 1) n (by omega)
        obtain ⟨l, hl⟩ : ∃ l, (wat ts k).1.length = l := ⟨_, rfl⟩
        rw [hl] at k1 k3 hsm hts
        obtain ⟨T, hT⟩ : ∃ T : Nat, wtot ts k = T := ⟨_, rfl⟩
        have hb1 : m + (T : Int) ≤ 1073741824 := by omega
        have hb0 : 0 ≤ m + (T : Int) := by omega
        have hout := ho.outer
        have hln := hout.1
        have hcx : wr.cell? ⟨g, k * 2, none⟩ = some (.slice a' l c') := (hout.cellAt _ (by omega)).trans k1
        have HO := Hid.mk ho
        have HK := Hid.mk k1
        have HL := Hid.mk hl
        have HT := Hid.mk hT
        have HTS := Hid.mk hts
        have HAP := Hid.mk hap
        obtain ⟨u', hu'⟩ : ∃ u, cells[k * 2 + 1]? = some u := ⟨_, List.getElem?_eq_getElem (by omega)⟩
        have HU := Hid.mk hu'
        rw [hT]
        have hki : (k : Int) < (n : Int) := by omega
        clear k1 k2 hl hT hts htm hap hu' ho hout
        go_wp2_with fail
        refine (markIntS_any _ _ _ _ _ _ _ hsm hb0 hb1 k3).mono ?_
        rintro e w2 ⟨rfl, hr2, hg2⟩
        have hmk := HO.out.marked (m := m) (ts := ts) (by have := HO.out.len; rwa [mixW_length] at this) hlt HL.out HK.out (by rw [HT.out]; exact hr2) hg2
        rw [HT.out] at hmk
        have hgb : ∀ b, (Value.slice a' l c').ownBlock = some b → g ≠ b := fun b hb e => by
          have := (HO.out.rowLt k hlt b (by rw [blkW_of HK.out]; exact hb)).2
          simp [Value.ownBlock, e] at this
        have ho2 := HO.out.outer.kept hg2 (.inr (fun e => by
          have h1 : (Value.slice a' l c').ownBlock = some g := by rw [← e]; rfl
          exact hgb g h1 rfl))
        have hco : w2.cell? ⟨g, k * 2 + 1, none⟩ = some u' := (ho2.cellAt _ (by omega)).trans HU.out
        have hfo : w2.frozen? ⟨g, k * 2 + 1, none⟩ = false := ho2.frozenAt _
        have hcx2 : w2.cell? ⟨g, k * 2, none⟩ = some (.slice a' l c') := (ho2.cellAt _ (by omega)).trans HK.out
        have HM := Hid.mk hmk
        have hB := HO.out.blocks
        have HA : Hid (Apart lo hi w (w2.setCell ⟨g, k * 2 + 1, none⟩ (.int .i64 (m + T + l)))) :=
          (HAP.out.trans (Apart.grown hg2 (fun b hb => hB.2 k hlt b (by rw [blkW_of HK.out]; exact hb)))).trans
            (Apart.grown (row := some g) ⟨rfl, rfl, rfl, by simp [World.setCell], fun j _ hn => Below.heap_setCell _ _ _ j (fun e => hn (by rw [e]))⟩ (fun b hb => by have := hB.1 g rfl; simp at hb; omega))
        clear hmk ho2 hgb hB hr2 hg2 k3 hcx HO HK HU
        go_wp2
        go_roundw
        case rel => exact ⟨k + 1, _, by omega, by go_num, by have := HTS.out; have := HT.out; go_num, HM.out, HA.out⟩
        case measure => simp [intOf]; omega
      · obtain rfl : k = n := by omega
        have hTm : wtot ts k ≤ 1048576 := ht
        have ho' : OwnW wr lo hi 50 3 (some ⟨g, 0, none⟩) k c (markW m ts) cells := by
          rw [← mixW_all, hz]; exact ho
        go_wp2
        go_ret
        exact ⟨rfl, ⟨cells, ho'⟩, hap⟩

set_option maxHeartbeats 2000000 in
theorem heldWeightedS_any (a : Option Addr) (n c : Nat) (ts : List WRow) (m : Int) (w : World) (hz : ts.length = n) (hs : ∀ i, i < n → (wat ts i).1.length ≤ 1048576) (ht : wtot ts n ≤ 1048576) (h0 : 0 ≤ m) (h1 : m ≤ 268435456) (ha : AtW w a (markW m ts)) :
    Calls Tryz.prog 36 #[.slice a n c, .int .i64 m] w fun e w' => e = .returned (.int .i64 (m + wtot ts n)) ∧ Below w.heap.size w w' := by
  have hn : n ≤ 1048576 := by have := wtot_len ts n (by omega); omega
  by_cases hn0 : n = 0
  · subst hn0
    obtain rfl := List.eq_nil_of_length_eq_zero hz
    go_enter Tryz.func36, Tryz.ntmps36
    go_wp2
    refine wp_loop_rounds 1 ?_
    rw [rounds_succ]
    go_wp2
    go_ret
    exact ⟨ret_int (by simp [wtot]), Below.refl _ _⟩
  · go_enter Tryz.func36, Tryz.ntmps36
    go_wp2
    go_loopw [1, 5] (fun q i wr => ∃ (k : Nat), k ≤ n ∧ i = .int .i64 k ∧ q = .int .i64 (m + wtot ts k) ∧ Below w.heap.size w wr) (fun _ i _ => n - (intOf i).toNat)
    case atStart => exact ⟨0, Nat.zero_le _, rfl, by simp [wtot_zero], Below.refl _ _⟩
    case round =>
      obtain ⟨k, hk, rfl, rfl, hbw⟩ := hrel
      by_cases hlt : k < n
      · obtain ⟨b, off, rfl, hc⟩ := (ha.below hbw).some (by rw [markW_length]; omega)
        obtain ⟨q, d, hcx, hwx, _, hat⟩ := hc k (by rw [markW_length]; omega)
        rw [markW_at m ts k (by omega)] at hcx hwx hat
        simp only [marks_length] at hcx
        have hsm := hs k hlt
        have hts := wtot_succ ts k (by omega)
        have htm := wtot_mono ts (k + 1) n (by omega)
        obtain ⟨l, hl⟩ : ∃ l, (wat ts k).1.length = l := ⟨_, rfl⟩
        simp only [hl] at hcx hwx hat hsm hts
        obtain ⟨T, hT⟩ : ∃ T : Nat, wtot ts k = T := ⟨_, rfl⟩
        rw [hT] at hwx hat ⊢
        have hb1 : m + (T : Int) ≤ 1073741824 := by omega
        have hb0 : 0 ≤ m + (T : Int) := by omega
        have HT := Hid.mk hT
        have HTS := Hid.mk hts
        have hki : (k : Int) < (n : Int) := by omega
        have hnn : ¬ m + (T : Int) + l < 0 := by omega
        clear hc hl hT hts htm ha
        go_wp2_with fail
        refine (heldIntS_any' _ _ _ _ _ hsm hb0 hb1 hat).mono ?_
        rintro e w2 ⟨rfl, hb2⟩
        have e1 := cell_later hb2 hwx
        have e2 := cell_later hb2 hcx
        have HB := Hid.mk (hbw.trans (hb2.mono hbw.size))
        clear hb2 hwx hcx hat hbw
        go_wp2
        go_roundw
        case rel => exact ⟨k + 1, by omega, by go_num, by have := HTS.out; have := HT.out; go_num, HB.out⟩
        case measure => simp [intOf]; omega
      · obtain rfl : k = n := by omega
        have hTm : wtot ts k ≤ 1048576 := ht
        go_wp2
        go_ret
        exact ⟨rfl, hbw⟩

theorem markTable_any (lo hi : Nat) (a : Option Addr) (n c : Nat) (ts : List WRow) (p : Int) (cells : List Value) (m : Int) (w : World) (hs : ∀ i, i < n → (wat ts i).1.length ≤ 1048576) (ht : wtot ts n ≤ 1048576) (h0 : 0 ≤ m) (h1 : m ≤ 268435456)
    (ho : OwnW w lo hi 50 3 a n c ts cells) :
    Calls Tryz.prog 15 #[.agg #[.int .i64 p, .slice a n c], .int .i64 m] w fun e w' => e = .returned (.int .i64 (m + wtot ts n)) ∧ (∃ cells', OwnW w' lo hi 50 3 a n c (markW m ts) cells') ∧ Apart lo hi w w' := by
  have HO := ho.alloc (.cells #[.int .i64 p, .slice a n c] 28)
  have hAp : Apart lo hi w (w.alloc (.cells #[.int .i64 p, .slice a n c] 28)) := Apart.grown (World.grownBy_alloc w _ none) (fun k hk => by cases hk)
  clear ho
  go_enter Tryz.func15, Tryz.ntmps15
  go_wp2_with fail
  refine (markWeightedS_any lo hi _ _ _ ts cells _ _ hs ht h0 h1 HO).mono ?_
  rintro e w1 ⟨rfl, ho1, hap⟩
  go_wp2
  go_ret
  exact ⟨rfl, ho1, hAp.trans hap⟩

theorem heldTable_any (a : Option Addr) (n c : Nat) (ts : List WRow) (p m : Int) (w : World) (hz : ts.length = n) (hs : ∀ i, i < n → (wat ts i).1.length ≤ 1048576) (ht : wtot ts n ≤ 1048576) (h0 : 0 ≤ m) (h1 : m ≤ 268435456) (ha : AtW w a (markW m ts)) :
    Calls Tryz.prog 16 #[.agg #[.int .i64 p, .slice a n c], .int .i64 m] w fun e w' => e = .returned (.int .i64 (m + wtot ts n)) ∧ Below w.heap.size w w' := by
  have HA := ha.alloc (.cells #[.int .i64 p, .slice a n c] 28)
  have h2 : ¬ m + (wtot ts n : Int) < 0 := by omega
  have B0 : Below w.heap.size w (w.alloc (.cells #[.int .i64 p, .slice a n c] 28)) := (Below.refl _ _).alloc (Nat.le_refl _) _
  clear ha
  go_enter Tryz.func16, Tryz.ntmps16
  go_wp2_with fail
  refine (heldWeightedS_any _ _ _ ts _ _ hz hs ht h0 h1 HA).mono ?_
  rintro e w1 ⟨rfl, hb1⟩
  go_wp2
  go_ret
  exact ⟨rfl, B0.trans (hb1.mono B0.size)⟩

end Go.Proofs.YtpnaoahlfhbbmaaGreat

/- Contracts of the laws' helpers over weighted rows: eqWeighted, eqWeightedS, eqTable. -/
namespace Go.Proofs.YtpnaoahlfhbbmaaGreat
open Go.RowKit

set_option maxHeartbeats 1000000 in
theorem eqWeighted_any (a a' : Option Addr) (n n' c c' : Nat) (zs zs' : List Int) (x x' : Int) (w : World) (hz : zs.length = n) (hz' : zs'.length = n') (hn : n ≤ 1048576) (hn' : n' ≤ 1048576) (ha : At w a zs) (ha' : At w a' zs') :
    Calls Tryz.prog 55 #[.agg #[.slice a n c, .int .i64 x], .agg #[.slice a' n' c', .int .i64 x']] w fun e w' => e = .returned (.bool (decide ((zs, x) = (zs', x')))) ∧ Below w.heap.size w w' := by
  obtain ⟨W, hW⟩ : ∃ W, W = (w.alloc (.cells #[.slice a n c, .int .i64 x] 50)).alloc (.cells #[.slice a' n' c', .int .i64 x'] 50) := ⟨_, rfl⟩
  have B : Below w.heap.size w W := by rw [hW]; exact ((Below.refl _ _).alloc (Nat.le_refl _) _).alloc (by simp) _
  have HA : At W a zs := ha.below B
  have HA' : At W a' zs' := ha'.below B
  have c1 : W.cell? ⟨w.heap.size, 0, none⟩ = some (.slice a n c) := by rw [hW]; simp
  have c2 : W.cell? ⟨w.heap.size + 1, 0, none⟩ = some (.slice a' n' c') := by rw [hW]; simp
  have d1 : W.cell? ⟨w.heap.size, 1, none⟩ = some (.int .i64 x) := by rw [hW]; simp
  have d2 : W.cell? ⟨w.heap.size + 1, 1, none⟩ = some (.int .i64 x') := by rw [hW]; simp
  clear ha ha'
  by_cases he : zs = zs'
  · by_cases hx : x = x'
    · have hne : (x != x') = false := by simp [hx]
      have HD : Hid (decide ((zs, x) = (zs', x')) = true) := by show _ = _; simp [he, hx]
      have HE : Hid (decide (zs = zs') = true) := by show _ = _; simp [he]
      clear he hx
      go_enter Tryz.func55, Tryz.ntmps55
      go_wp2_with fail
      rw [← hW]
      clear hW
      refine (eqRow_any _ _ _ _ _ _ zs zs' _ hz hz' hn hn' HA HA').mono ?_
      rintro e w1 ⟨rfl, hb⟩
      rw [HE.out]
      have e1 := cell_later hb d1
      have e2 := cell_later hb d2
      clear d1 d2 c1 c2 HA HA'
      go_wp2
      go_ret
      exact ⟨ret_bool HD.out.symm, B.trans (hb.mono B.size)⟩
    · have hne : (x != x') = true := by simp [hx]
      have HD : Hid (decide ((zs, x) = (zs', x')) = false) := by show _ = _; simp [hx]
      have HE : Hid (decide (zs = zs') = true) := by show _ = _; simp [he]
      clear he hx
      go_enter Tryz.func55, Tryz.ntmps55
      go_wp2_with fail
      rw [← hW]
      clear hW
      refine (eqRow_any _ _ _ _ _ _ zs zs' _ hz hz' hn hn' HA HA').mono ?_
      rintro e w1 ⟨rfl, hb⟩
      rw [HE.out]
      have e1 := cell_later hb d1
      have e2 := cell_later hb d2
      clear d1 d2 c1 c2 HA HA'
      go_wp2
      go_ret
      exact ⟨ret_bool HD.out.symm, B.trans (hb.mono B.size)⟩
  · have HD : Hid (decide ((zs, x) = (zs', x')) = false) := by show _ = _; simp [he]
    have HE : Hid (decide (zs = zs') = false) := by show _ = _; simp [he]
    clear he
    go_enter Tryz.func55, Tryz.ntmps55
    go_wp2_with fail
    rw [← hW]
    clear hW
    refine (eqRow_any _ _ _ _ _ _ zs zs' _ hz hz' hn hn' HA HA').mono ?_
    rintro e w1 ⟨rfl, hb⟩
    rw [HE.out]
    clear d1 d2 c1 c2 HA HA'
    go_wp2
    go_ret
    exact ⟨ret_bool HD.out.symm, B.trans (hb.mono B.size)⟩

set_option maxHeartbeats 2000000 in
theorem eqWeightedS_any (a a' : Option Addr) (n n' c c' : Nat) (ts ts' : List WRow) (w : World) (hz : ts.length = n) (hz' : ts'.length = n') (hn : n ≤ 1048576) (hn' : n' ≤ 1048576)
    (hs : ∀ i, i < n → (wat ts i).1.length ≤ 1048576) (hs' : ∀ i, i < n' → (wat ts' i).1.length ≤ 1048576) (ha : AtW w a ts) (ha' : AtW w a' ts') :
    Calls Tryz.prog 32 #[.slice a n c, .slice a' n' c'] w fun e w' => e = .returned (.bool (decide (ts = ts'))) ∧ Below w.heap.size w w' := by
  by_cases hnn : n = n'
  · subst hnn
    by_cases h0 : n = 0
    · subst h0
      obtain rfl := List.eq_nil_of_length_eq_zero hz
      obtain rfl := List.eq_nil_of_length_eq_zero hz'
      go_enter Tryz.func32, Tryz.ntmps32
      go_wp2
      refine wp_loop_rounds 1 ?_
      rw [rounds_succ]
      go_wp2
      go_ret
      exact ⟨by simp, Below.refl _ _⟩
    · go_enter Tryz.func32, Tryz.ntmps32
      go_wp2
      go_loopw [5] (fun i wr => ∃ (k : Nat), k ≤ n ∧ i = .int .i64 k ∧ ts.take k = ts'.take k ∧ Below w.heap.size w wr) (fun i _ => n - (intOf i).toNat)
      case atStart => exact ⟨0, Nat.zero_le _, rfl, rfl, Below.refl _ _⟩
      case round =>
        obtain ⟨k, hk, rfl, ht, hbw⟩ := hrel
        by_cases hlt : k < n
        · obtain ⟨b, off, rfl, hc⟩ := (ha.below hbw).some (by omega)
          obtain ⟨b', off', rfl, hc'⟩ := (ha'.below hbw).some (by omega)
          obtain ⟨q, d, hcx, hwx, _, hat⟩ := hc k (by omega)
          obtain ⟨q', d', hcy, hwy, _, hat'⟩ := hc' k (by omega)
          have hm := hs k (by omega)
          have hm' := hs' k (by omega)
          have HT : Hid (wat ts k = wat ts' k → ts.take (k + 1) = ts'.take (k + 1)) := fun e => by
            rw [wtake_succ ts k (by omega), wtake_succ ts' k (by omega), ht, e]
          have HN : Hid (wat ts k ≠ wat ts' k → ts ≠ ts') := wne_of
          generalize wat ts k = Y at *
          generalize wat ts' k = Y' at *
          obtain ⟨ys, x⟩ := Y
          obtain ⟨ys', x'⟩ := Y'
          simp only at hcx hcy hwx hwy hat hat' hm hm'
          obtain ⟨m, hmm⟩ : ∃ m, ys.length = m := ⟨_, rfl⟩
          obtain ⟨m', hmm'⟩ : ∃ m, ys'.length = m := ⟨_, rfl⟩
          rw [hmm] at hcx hm
          rw [hmm'] at hcy hm'
          have HM := Hid.mk hmm
          have HM' := Hid.mk hmm'
          have hki : (k : Int) < (n : Int) := by omega
          clear ht hc hc' hmm hmm' ha ha' hs hs'
          cases hbl : decide ((ys, x) = (ys', x')) with
          | true =>
            have HD := Hid.mk hbl
            have HE := Hid.mk (of_decide_eq_true hbl)
            clear hbl
            go_wp2_with fail
            go_region_held3 (fun w' => w'.cell? ⟨b, off + k * 2, none⟩ = some (.slice q m d) ∧ w'.cell? ⟨b, off + k * 2 + 1, none⟩ = some (.int .i64 x) ∧ w'.cell? ⟨b', off' + k * 2, none⟩ = some (.slice q' m' d') ∧ w'.cell? ⟨b', off' + k * 2 + 1, none⟩ = some (.int .i64 x')) (refine ⟨?_, ?_, ?_, ?_⟩ <;> assumption)
              (first | (go_at_call 55; refine (eqWeighted_any _ _ _ _ _ _ ys ys' _ _ _ HM.out HM'.out hm hm' hat.drew hat'.drew).mono ?_; rintro e w2 ⟨rfl, hb2⟩; rw [HD.out]; have e1 := cell_later hb2 hcx; have e2 := cell_later hb2 hcy; have e3 := cell_later hb2 hwx; have e4 := cell_later hb2 hwy))
            go_wp2
            go_roundw
            case rel => exact ⟨k + 1, by omega, by go_num, HT.out HE.out, hbw.drew.trans (hb2.mono hbw.size)⟩
            case measure => simp [intOf]; omega
          | false =>
            have HD := Hid.mk hbl
            have HE := Hid.mk (of_decide_eq_false hbl)
            clear hbl
            go_wp2_with fail
            go_region_held3 (fun w' => w'.cell? ⟨b, off + k * 2, none⟩ = some (.slice q m d) ∧ w'.cell? ⟨b, off + k * 2 + 1, none⟩ = some (.int .i64 x) ∧ w'.cell? ⟨b', off' + k * 2, none⟩ = some (.slice q' m' d') ∧ w'.cell? ⟨b', off' + k * 2 + 1, none⟩ = some (.int .i64 x')) (refine ⟨?_, ?_, ?_, ?_⟩ <;> assumption)
              (first | (go_at_call 55; refine (eqWeighted_any _ _ _ _ _ _ ys ys' _ _ _ HM.out HM'.out hm hm' hat.drew hat'.drew).mono ?_; rintro e w2 ⟨rfl, hb2⟩; rw [HD.out]; have e1 := cell_later hb2 hcx; have e2 := cell_later hb2 hcy; have e3 := cell_later hb2 hwx; have e4 := cell_later hb2 hwy))
            go_wp2
            go_ret
            exact ⟨ret_bool (decide_eq_false (HN.out HE.out)).symm, hbw.drew.trans (hb2.mono hbw.size)⟩
        · go_wp2
          go_ret
          exact ⟨ret_bool (decide_eq_true (wtake_all (by omega) (by omega) ht)).symm, hbw⟩
  · go_enter Tryz.func32, Tryz.ntmps32
    go_wp2
    go_ret
    exact ⟨ret_bool (decide_eq_false (fun e => hnn (by rw [← hz, ← hz', e]))).symm, Below.refl _ _⟩

set_option maxHeartbeats 1000000 in
theorem eqTable_any (a a' : Option Addr) (n n' c c' : Nat) (ts ts' : List WRow) (p p' : Int) (w : World) (hz : ts.length = n) (hz' : ts'.length = n') (hn : n ≤ 1048576) (hn' : n' ≤ 1048576)
    (hs : ∀ i, i < n → (wat ts i).1.length ≤ 1048576) (hs' : ∀ i, i < n' → (wat ts' i).1.length ≤ 1048576) (ha : AtW w a ts) (ha' : AtW w a' ts') :
    Calls Tryz.prog 10 #[.agg #[.int .i64 p, .slice a n c], .agg #[.int .i64 p', .slice a' n' c']] w fun e w' => e = .returned (.bool (decide (p = p' ∧ ts = ts'))) ∧ Below w.heap.size w w' := by
  obtain ⟨W, hW⟩ : ∃ W, W = (w.alloc (.cells #[.int .i64 p, .slice a n c] 28)).alloc (.cells #[.int .i64 p', .slice a' n' c'] 28) := ⟨_, rfl⟩
  have B : Below w.heap.size w W := by rw [hW]; exact ((Below.refl _ _).alloc (Nat.le_refl _) _).alloc (by simp) _
  have HA : AtW W a ts := ha.below B
  have HA' : AtW W a' ts' := ha'.below B
  clear ha ha'
  by_cases hp : p = p'
  · have hne : (p != p') = false := by simp [hp]
    obtain ⟨d, HE, HD⟩ : ∃ d : Bool, Hid (decide (ts = ts') = d) ∧ Hid (decide (p = p' ∧ ts = ts') = d) := ⟨_, Hid.mk rfl, by show _ = _; simp [hp]⟩
    clear hp
    cases d
    all_goals
      go_enter Tryz.func10, Tryz.ntmps10
      go_wp2_with fail
      rw [← hW]
      clear hW
      refine (eqWeightedS_any _ _ _ _ _ _ ts ts' _ hz hz' hn hn' hs hs' HA HA').mono ?_
      rintro e w1 ⟨rfl, hb⟩
      rw [HE.out]
      clear HA HA'
      go_wp2
      go_ret
      exact ⟨ret_bool HD.out.symm, B.trans (hb.mono B.size)⟩
  · have hne : (p != p') = true := by simp [hp]
    have HD : Hid (decide (p = p' ∧ ts = ts') = false) := by show _ = _; simp [hp]
    clear hp
    go_enter Tryz.func10, Tryz.ntmps10
    go_wp2
    go_ret
    exact ⟨ret_bool HD.out.symm, by rw [← hW]; exact B⟩

end Go.Proofs.YtpnaoahlfhbbmaaGreat

/- Plain functions on lists of numbers: what the program's row functions answer. -/
namespace Go.Proofs.YtpnaoahlfhbbmaaGreat

def inb (z : Int) : Bool := decide (-100000 ≤ z) && decide (z ≤ 100000)
/-- A good row's cells. -/
def good (zs : List Int) : Bool := decide (zs.length ≤ 6) && zs.all inb

theorem good_len {zs : List Int} (h : good zs = true) : zs.length ≤ 6 := by simp [good] at h; exact h.1
theorem good_cell {zs : List Int} (h : good zs = true) (k : Nat) (hk : k < zs.length) : -100000 ≤ zs.getD k 0 ∧ zs.getD k 0 ≤ 100000 := by
  simp [good, inb] at h
  have := h.2 (zs[k]) (List.getElem_mem hk)
  simpa [List.getD, hk] using this
theorem good_long {zs : List Int} (h : 6 < zs.length) : good zs = false := by simp [good]; omega
theorem not_good_cell {zs : List Int} (k : Nat) (hk : k < zs.length) (h : zs.getD k 0 < -100000 ∨ 100000 < zs.getD k 0) : good zs = false := by
  cases hg : good zs with
  | false => rfl
  | true => have := good_cell hg k hk; omega
theorem good_of {zs : List Int} (hl : zs.length ≤ 6) (h : ∀ k, k < zs.length → -100000 ≤ zs.getD k 0 ∧ zs.getD k 0 ≤ 100000) : good zs = true := by
  simp only [good, Bool.and_eq_true, decide_eq_true_eq, List.all_eq_true, inb]
  refine ⟨hl, fun x hx => ?_⟩
  obtain ⟨k, hk, rfl⟩ := List.getElem_of_mem hx
  simpa [List.getD, hk] using h k hk

/-- Cell by cell; the first unlike one decides; a row that ends there is less. -/
def cmp : List Int → List Int → Int
  | [], [] => 0
  | [], _ :: _ => -1
  | _ :: _, [] => 1
  | x :: xs, y :: ys => if x < y then -1 else if y < x then 1 else cmp xs ys

theorem cmp_drop (xs ys : List Int) (k : Nat) (h1 : k < xs.length) (h2 : k < ys.length) :
    cmp (xs.drop k) (ys.drop k) = if xs.getD k 0 < ys.getD k 0 then -1 else if ys.getD k 0 < xs.getD k 0 then 1 else cmp (xs.drop (k + 1)) (ys.drop (k + 1)) := by
  rw [List.drop_eq_getElem_cons h1, List.drop_eq_getElem_cons h2, cmp]
  simp [List.getD, h1, h2]

theorem cmp_end (xs ys : List Int) (k : Nat) (h : k = xs.length ∨ k = ys.length) (h1 : k ≤ xs.length) (h2 : k ≤ ys.length) :
    cmp (xs.drop k) (ys.drop k) = if xs.length < ys.length then -1 else if ys.length < xs.length then 1 else 0 := by
  rcases h with rfl | rfl
  · rw [List.drop_length]
    by_cases e : xs.length = ys.length
    · rw [List.drop_eq_nil_of_le (by omega), if_neg (by omega), if_neg (by omega)]; rfl
    · rw [List.drop_eq_getElem_cons (by omega), if_pos (by omega)]; rfl
  · rw [List.drop_length]
    by_cases e : xs.length = ys.length
    · rw [List.drop_eq_nil_of_le (by omega), if_neg (by omega), if_neg (by omega)]; rfl
    · rw [List.drop_eq_getElem_cons (by omega), if_neg (by omega), if_pos (by omega)]; rfl

theorem cmp_self (xs : List Int) : cmp xs xs = 0 := by
  induction xs with
  | nil => rfl
  | cons x xs ih => simp [cmp, ih]

def good2 (xs ys : List Int) : Bool := good xs && good ys
def cmpAns (xs ys : List Int) : Int := if good xs && good ys then cmp xs ys else 0

/-- A cell's three bytes. -/
def cellNums (z : Int) : List Int := [(z + 100000) / 65536, (z + 100000) / 256 % 256, (z + 100000) % 256]
def rowNumsTo (zs : List Int) (k : Nat) : List Int := (zs.length : Int) :: (zs.take k).flatMap cellNums
def rowNums (zs : List Int) : List Int := (zs.length : Int) :: zs.flatMap cellNums

theorem take_snocD (zs : List Int) (k : Nat) (h : k < zs.length) : zs.take (k + 1) = zs.take k ++ [zs.getD k 0] := by
  rw [List.take_succ_eq_append_getElem h]; simp [List.getD, h]
theorem rowNumsTo_succ (zs : List Int) (k : Nat) (h : k < zs.length) : rowNumsTo zs (k + 1) = rowNumsTo zs k ++ cellNums (zs.getD k 0) := by
  unfold rowNumsTo
  rw [take_snocD zs k h, List.flatMap_append]
  simp only [List.flatMap_cons, List.flatMap_nil, List.append_nil, List.cons_append]
theorem rowNumsTo_all (zs : List Int) : rowNumsTo zs zs.length = rowNums zs := by simp [rowNumsTo, rowNums]
theorem rowNumsTo_length (zs : List Int) (k : Nat) (h : k ≤ zs.length) : (rowNumsTo zs k).length = 1 + 3 * k := by
  induction k with
  | zero => simp [rowNumsTo]
  | succ k ih => rw [rowNumsTo_succ zs k (by omega), List.length_append, ih (by omega)]; simp [cellNums]; omega

/-- The row itself where it is good, else the empty one. -/
def goodOr (zs : List Int) : List Int := if good zs then zs else []

def byt (s : ByteArray) (k : Nat) : Nat := (s.data.toList.getD k 0).toNat
/-- The j-th cell that a row's bytes tell. -/
def cellAt (s : ByteArray) (j : Nat) : Int := (byt s (1 + 3 * j) : Int) * 65536 + (byt s (1 + 3 * j + 1) : Int) * 256 + (byt s (1 + 3 * j + 2) : Int) - 100000
def cellsTo (s : ByteArray) (k : Nat) : List Int := (List.range k).map (cellAt s)
theorem byt_lt (s : ByteArray) (k : Nat) : byt s k < 256 := (s.data.toList.getD k 0).toNat_lt
theorem byt_at (s : ByteArray) (k : Nat) (h : k < s.size) : (s[k]'h).toNat = byt s k := by
  have h' : k < s.data.size := h
  unfold byt
  rw [show s.data.toList.getD k 0 = s[k] from by simp only [List.getD, Array.getElem?_toList, Array.getElem?_eq_getElem h', Option.getD_some]; rfl]
theorem cellsTo_succ (s : ByteArray) (k : Nat) : cellsTo s (k + 1) = cellsTo s k ++ [cellAt s k] := by simp [cellsTo, List.range_succ]
theorem cellsTo_length (s : ByteArray) (k : Nat) : (cellsTo s k).length = k := by simp [cellsTo]

/-- A good row's cells raised above 0, and 0 behind the last one. -/
def raised (zs : List Int) : List Int := zs.map (· + 100001) ++ List.replicate (6 - zs.length) 0

theorem cmp_raised' (xs : List Int) : ∀ (ys : List Int) (a b : Nat), (∀ x ∈ xs, -100000 ≤ x) → (∀ y ∈ ys, -100000 ≤ y) → xs.length + a = ys.length + b →
    cmp (xs.map (· + 100001) ++ List.replicate a 0) (ys.map (· + 100001) ++ List.replicate b 0) = cmp xs ys := by
  induction xs with
  | nil =>
    intro ys a b _ hy hl
    cases ys with
    | nil => simp at hl; subst hl; simp [cmp_self, cmp]
    | cons y ys =>
      obtain ⟨a', rfl⟩ : ∃ a', a = a' + 1 := ⟨a - 1, by simp at hl; omega⟩
      have := hy y (by simp)
      simp [List.replicate_succ, cmp]
      omega
  | cons x xs ih =>
    intro ys a b hx hy hl
    have h0 := hx x (by simp)
    cases ys with
    | nil =>
      obtain ⟨b', rfl⟩ : ∃ b', b = b' + 1 := ⟨b - 1, by simp at hl; omega⟩
      simp only [List.map_cons, List.cons_append, List.map_nil, List.nil_append, List.replicate_succ, cmp]
      rw [if_neg (by omega), if_pos (by omega)]
    | cons y ys =>
      have h1 := hy y (by simp)
      simp only [List.map_cons, List.cons_append, cmp]
      rw [ih ys a b (fun z hz => hx z (by simp [hz])) (fun z hz => hy z (by simp [hz])) (by simp at hl; omega)]
      by_cases e1 : x < y
      · rw [if_pos (by omega), if_pos e1]
      · rw [if_neg (by omega), if_neg e1]
        by_cases e2 : y < x
        · rw [if_pos (by omega), if_pos e2]
        · rw [if_neg (by omega), if_neg e2]

theorem good_mem {zs : List Int} (h : good zs = true) : ∀ z ∈ zs, -100000 ≤ z ∧ z ≤ 100000 := by
  simp only [good, Bool.and_eq_true, List.all_eq_true, inb, decide_eq_true_eq] at h
  exact h.2

theorem cmp_raised {xs ys : List Int} (hx : good xs = true) (hy : good ys = true) : cmp (raised xs) (raised ys) = cmp xs ys := by
  have h1 := good_len hx
  have h2 := good_len hy
  exact cmp_raised' xs ys _ _ (fun z hz => (good_mem hx z hz).1) (fun z hz => (good_mem hy z hz).1) (by omega)

/-- The array while it is filled. -/
def rowTo (zs : List Int) (k : Nat) : List Int := (zs.take k).map (· + 100001) ++ List.replicate (6 - k) 0

theorem rowTo_length (zs : List Int) (k : Nat) (h : k ≤ zs.length) (h6 : k ≤ 6) : (rowTo zs k).length = 6 := by simp [rowTo]; omega

theorem rowTo_set (zs : List Int) (k : Nat) (h : k < zs.length) (h6 : k < 6) : (rowTo zs k).set k (zs.getD k 0 + 100001) = rowTo zs (k + 1) := by
  unfold rowTo
  rw [List.set_append_right _ _ (by simp; omega)]
  rw [show k - (List.map (· + 100001) (List.take k zs)).length = 0 by simp; omega]
  rw [show 6 - k = (6 - (k + 1)) + 1 by omega, List.replicate_succ, List.set_cons_zero]
  rw [List.take_succ_eq_append_getElem h, List.map_append, List.append_assoc]
  simp [List.getD, h]

theorem rowTo_all (zs : List Int) : rowTo zs zs.length = raised zs := by simp [rowTo, raised]

theorem raised_length {zs : List Int} (h : zs.length ≤ 6) : (raised zs).length = 6 := by simp [raised]; omega

end Go.Proofs.YtpnaoahlfhbbmaaGreat

/- Plain functions on lists of weighted rows: what a good table is. -/
namespace Go.Proofs.YtpnaoahlfhbbmaaGreat

def inw (x : Int) : Bool := decide (-1000000 ≤ x) && decide (x ≤ 1000000)
def inc (p : Int) : Bool := decide (0 ≤ p) && decide (p ≤ 6)
/-- A row that may be handed in. -/
def goodW (p : Int) (t : WRow) : Bool := good t.1 && (decide ((t.1.length : Int) = p) && inw t.2)
/-- The k-th row may stand in a table. -/
def stepB (p : Int) (ts : List WRow) (k : Nat) : Bool := goodW p (wat ts k) && (!decide ((wat ts k).2 = 0) && (decide (k = 0) || decide (cmp (wat ts (k - 1)).1 (wat ts k).1 < 0)))
/-- A good table. -/
def goodT (p : Int) (ts : List WRow) : Bool := inc p && (decide (ts.length ≤ 60) && (List.range ts.length).all (stepB p ts))
def goodL (p : Int) (ts : List WRow) : Bool := ts.all (goodW p)

theorem goodW_cells {p : Int} {t : WRow} (h : goodW p t = true) : good t.1 = true ∧ (t.1.length : Int) = p ∧ -1000000 ≤ t.2 ∧ t.2 ≤ 1000000 := by
  simpa [goodW, inw] using h
theorem goodW_mk {p : Int} {t : WRow} (h1 : good t.1 = true) (h2 : (t.1.length : Int) = p) (h3 : inw t.2 = true) : goodW p t = true := by
  simp [goodW, h1, h2, h3]
theorem goodW_row {p : Int} {t : WRow} (h : good t.1 = false) : goodW p t = false := by simp [goodW, h]
theorem goodW_len {p : Int} {t : WRow} (h : (t.1.length : Int) ≠ p) : goodW p t = false := by simp [goodW, h]
theorem goodW_wt {p : Int} {t : WRow} (h : inw t.2 = false) : goodW p t = false := by simp [goodW, h]

theorem wat_mem {ts : List WRow} {k : Nat} (h : k < ts.length) : wat ts k ∈ ts := by
  rw [show wat ts k = ts[k] by simp [wat, List.getD, h]]; exact List.getElem_mem h

theorem goodL_of {p : Int} {ts : List WRow} (h : ∀ k, k < ts.length → goodW p (wat ts k) = true) : goodL p ts = true := by
  unfold goodL
  rw [List.all_eq_true]
  intro t ht
  obtain ⟨k, hk, rfl⟩ := List.getElem_of_mem ht
  simpa [wat, List.getD, hk] using h k hk
theorem goodL_at {p : Int} {ts : List WRow} (h : goodL p ts = true) (k : Nat) (hk : k < ts.length) : goodW p (wat ts k) = true := List.all_eq_true.1 h _ (wat_mem hk)
theorem goodL_not {p : Int} {ts : List WRow} (k : Nat) (hk : k < ts.length) (h : goodW p (wat ts k) = false) : goodL p ts = false := by
  cases hg : goodL p ts with
  | false => rfl
  | true => rw [goodL_at hg k hk] at h; cases h

theorem goodT_of {p : Int} {ts : List WRow} (h1 : inc p = true) (h2 : ts.length ≤ 60) (h : ∀ k, k < ts.length → stepB p ts k = true) : goodT p ts = true := by
  simp only [goodT, h1, decide_eq_true h2, Bool.true_and, List.all_eq_true, List.mem_range]; exact h
theorem goodT_parts {p : Int} {ts : List WRow} (h : goodT p ts = true) : inc p = true ∧ ts.length ≤ 60 ∧ ∀ k, k < ts.length → stepB p ts k = true := by
  simpa only [goodT, Bool.and_eq_true, decide_eq_true_eq, List.all_eq_true, List.mem_range] using h
theorem goodT_col {p : Int} {ts : List WRow} (h : inc p = false) : goodT p ts = false := by simp [goodT, h]
theorem goodT_len {p : Int} {ts : List WRow} (h : 60 < ts.length) : goodT p ts = false := by
  have : decide (ts.length ≤ 60) = false := by simp; omega
  simp [goodT, this]
theorem goodT_not {p : Int} {ts : List WRow} (k : Nat) (hk : k < ts.length) (h : stepB p ts k = false) : goodT p ts = false := by
  cases hg : goodT p ts with
  | false => rfl
  | true => rw [(goodT_parts hg).2.2 k hk] at h; cases h
theorem stepB_good {p : Int} {ts : List WRow} {k : Nat} (h : stepB p ts k = true) : goodW p (wat ts k) = true := by
  simp only [stepB, Bool.and_eq_true] at h; exact h.1
theorem stepB_row {p : Int} {ts : List WRow} {k : Nat} (h : goodW p (wat ts k) = false) : stepB p ts k = false := by simp only [stepB, h, Bool.false_and]
theorem stepB_zero {p : Int} {ts : List WRow} {k : Nat} (h : (wat ts k).2 = 0) : stepB p ts k = false := by simp only [stepB, h, decide_true, Bool.not_true, Bool.false_and, Bool.and_false]
theorem stepB_cmp {p : Int} {ts : List WRow} {k : Nat} (h0 : k ≠ 0) (h : ¬ cmp (wat ts (k - 1)).1 (wat ts k).1 < 0) : stepB p ts k = false := by
  simp only [stepB, decide_eq_false h0, decide_eq_false h, Bool.or_false, Bool.and_false]
theorem stepB_mk {p : Int} {ts : List WRow} {k : Nat} (h1 : goodW p (wat ts k) = true) (h2 : (wat ts k).2 ≠ 0) (h3 : k = 0 ∨ cmp (wat ts (k - 1)).1 (wat ts k).1 < 0) : stepB p ts k = true := by
  rcases h3 with h3 | h3 <;> simp only [stepB, h1, decide_eq_false h2, decide_eq_true h3, Bool.not_false, Bool.true_and, Bool.or_true, Bool.true_or]
theorem goodL_of_goodT {p : Int} {ts : List WRow} (h : goodT p ts = true) : goodL p ts = true := goodL_of fun k hk => stepB_good ((goodT_parts h).2.2 k hk)
theorem goodT_goodL {p : Int} {ts : List WRow} (h : goodL p ts = false) : goodT p ts = false := by
  cases hg : goodT p ts with
  | false => rfl
  | true => rw [goodL_of_goodT hg] at h; cases h
theorem inc_range {p : Int} (h : inc p = true) : 0 ≤ p ∧ p ≤ 6 := by simpa [inc] using h

/-- cmp tells -1, 0 or 1. -/
theorem cmp_range (xs : List Int) : ∀ ys, cmp xs ys = -1 ∨ cmp xs ys = 0 ∨ cmp xs ys = 1 := by
  induction xs with
  | nil => intro ys; cases ys <;> simp [cmp]
  | cons x xs ih =>
    intro ys
    cases ys with
    | nil => simp [cmp]
    | cons y ys =>
      simp only [cmp]
      by_cases h1 : x < y
      · simp [h1]
      · by_cases h2 : y < x
        · simp [h1, h2]
        · simp [h1, h2, ih ys]

end Go.Proofs.YtpnaoahlfhbbmaaGreat
