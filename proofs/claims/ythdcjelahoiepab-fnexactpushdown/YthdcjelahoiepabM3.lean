/- Several texts of one proof, in build order: IntS, RowH, TableH, TableM, TableE, Plain, PlainT, PlainC. -/
import Derived.Test.YthdcjelahoiepabRows
import Derived.Test.YthdcjelahoiepabM0

/- Contracts of the laws' helpers over slices of ints: szIntS, toIntS, eqIntS. -/
namespace Go.Proofs.Ythdcjelahoiepab
open Go.RowKit

theorem Try.infoInt : (Try.prog.info? 3).map (fun i => (i.zero, i.size, i.bytes)) = some (some (.int .i64 0), 1, 8) := by kernel_rfl

theorem szIntS_any (a : Option Addr) (n c : Nat) (l : Int) (w : World) (hn : n ≤ 9223372036854775807) (h0 : 0 ≤ l) (h1 : l ≤ 1048576) :
    Calls Try.prog 14 #[.slice a n c, .int .i64 l] w fun e w' => e = .returned (.int .i64 (if l < n then -1 else l - n)) ∧ w' = w := by
  by_cases h : l < n
  · have h' : l - (n : Int) < 0 := by omega
    go_enter Try.func14, Try.ntmps14
    go_wp2
    go_ret
    exact ⟨by simp, rfl⟩
  · have h' : ¬ l - (n : Int) < 0 := by omega
    go_enter Try.func14, Try.ntmps14
    go_wp2
    go_ret
    exact ⟨by simp, rfl⟩

set_option maxHeartbeats 400000 in
theorem toIntS_any (a : Option Addr) (n c : Nat) (zs : List Int) (w : World) (hz : zs.length = n) (hn : n ≤ 1048576) (ha : At w a zs) :
    Calls Try.prog 17 #[.slice a n c] w fun e w' => e = .returned (.slice (some ⟨w.heap.size, 0, none⟩) n n) ∧
      w'.ownsRow w.heap.size 3 1 (.slice (some ⟨w.heap.size, 0, none⟩) n n) n (zs.map (.int .i64)) ∧ Below w.heap.size w w' := by
  obtain ⟨i0, hi, hz0, hz1, hz2⟩ := info_parts Try.infoInt
  have key : n = 0 ∨ ∃ b off, a = some ⟨b, off, none⟩ ∧ ∀ i, i < n → w.cell? ⟨b, off + i, none⟩ = some (.int .i64 (zs.getD i 0)) := by
    rcases ha with rfl | h
    · exact .inl (by simpa using hz.symm)
    · exact .inr (by rw [← hz]; exact h)
  clear ha
  rcases key with rfl | ⟨b, off, rfl, hc⟩
  · go_enter Try.func17, Try.ntmps17
    go_wp2_with (at_make; refine wpList_make_full _ rfl _ _ 22 rfl w.heap.size 3 i0 (.int .i64 0) 1 Try.underlying22 hi hz0 hz1 .i64 .i64 _ _ 0 rfl rfl rfl rfl (by simp) (by simp) (Nat.le_refl _) ?_; intro w1 hown hg)
    refine wp_loop_rounds 1 ?_
    rw [rounds_succ]
    go_wp2
    go_ret
    obtain rfl : zs = [] := List.eq_nil_of_length_eq_zero hz
    exact ⟨rfl, by simpa [madeCells] using hown, (Below.refl _ _).grown hg (Nat.le_refl _) (by simp)⟩
  · have hb : 0 < n → b < w.heap.size := fun h => World.block_lt_of_cell? w _ (hc 0 h)
    go_enter Try.func17, Try.ntmps17
    go_wp2_with (at_make; refine wpList_make_full _ rfl _ _ 22 rfl w.heap.size 3 i0 (.int .i64 0) 1 Try.underlying22 hi hz0 hz1 .i64 .i64 _ _ n rfl rfl rfl rfl (by rw [hz2]; omega) (by unfold maxLen; omega) (Nat.le_refl _) ?_; intro w1 hown hg)
    have hb1 : Below w.heap.size w w1 := (Below.refl _ _).grown hg (Nat.le_refl _) (by simp)
    have hs0 : (madeCells (Value.int .i64 0).cells (n * 1)).toList.length = zs.length := by simp [madeCells, hz]
    have hu0 := Upto.zero hs0
    obtain ⟨cs, hcs⟩ : ∃ cs, cs = (madeCells (Value.int .i64 0).cells (n * 1)).toList := ⟨_, rfl⟩
    rw [← hcs] at hown hu0
    clear hcs hs0 hg
    go_loopw [4] (fun i wr => ∃ (k : Nat) (cs : List Value), k ≤ n ∧ i = .int .i64 k ∧ Upto cs zs k ∧ wr.ownsRow w.heap.size 3 1 (.slice (some ⟨w.heap.size, 0, none⟩) n n) n cs ∧ Below w.heap.size w wr) (fun i _ => n - (intOf i).toNat)
    case atStart => exact ⟨0, cs, Nat.zero_le _, rfl, hu0, hown, hb1⟩
    case round =>
      clear hown hu0 hb1 cs
      obtain ⟨k, cs, hk, rfl, hu, hown, hbw⟩ := hrel
      by_cases hlt : k < n
      · have hcx : wr.cell? ⟨b, off + k, none⟩ = some (.int .i64 (zs.getD k 0)) := (hbw.cell (hb (by omega))).trans (hc k hlt)
        obtain ⟨u, hu'⟩ : ∃ u, cs[k]? = some u := ⟨_, List.getElem?_eq_getElem (by have := hu.1; omega)⟩
        have hco : wr.cell? ⟨w.heap.size, k, none⟩ = some u := (hown.cellAt k (by omega)).trans hu'
        have hfo : wr.frozen? ⟨w.heap.size, k, none⟩ = false := hown.frozenAt k
        have hst := hown.stored k (.int .i64 (zs.getD k 0))
        have HU : Hid (Upto (cs.set k (.int .i64 (zs.getD k 0))) zs (k + 1)) := hu.set (by omega)
        have HO : Hid ((wr.setCell ⟨w.heap.size, k, none⟩ (.int .i64 (zs.getD k 0))).ownsRow w.heap.size 3 1 (.slice (some ⟨w.heap.size, 0, none⟩) n n) n (cs.set k (.int .i64 (zs.getD k 0)))) := hst.1
        have HB : Hid (Below w.heap.size w (wr.setCell ⟨w.heap.size, k, none⟩ (.int .i64 (zs.getD k 0)))) := hbw.setCell (Nat.le_refl _) _
        clear hst hu' hown hu hbw
        obtain ⟨x, hx⟩ : ∃ x, x = zs.getD k 0 := ⟨_, rfl⟩
        rw [← hx] at hcx HU HO HB
        clear hx
        go_wp2
        go_roundw
        case rel => exact ⟨k + 1, _, by omega, by go_num, HU.out, HO.out, HB.out⟩
        case measure => simp [intOf]; omega
      · go_wp2
        go_ret
        rw [hu.all (by omega)] at hown
        exact ⟨rfl, hown, hbw⟩

set_option maxHeartbeats 400000 in
theorem eqIntS_any (a a' : Option Addr) (n n' c c' : Nat) (zs zs' : List Int) (w : World) (hz : zs.length = n) (hz' : zs'.length = n') (hn : n ≤ 1048576) (hn' : n' ≤ 1048576) (ha : At w a zs) (ha' : At w a' zs') :
    Calls Try.prog 21 #[.slice a n c, .slice a' n' c'] w fun e w' => e = .returned (.bool (decide (zs = zs'))) ∧ Below w.heap.size w w' := by
  by_cases hnn : n = n'
  · subst hnn
    by_cases h0 : n = 0
    · subst h0
      obtain rfl := List.eq_nil_of_length_eq_zero hz
      obtain rfl := List.eq_nil_of_length_eq_zero hz'
      go_enter Try.func21, Try.ntmps21
      go_wp2
      refine wp_loop_rounds 1 ?_
      rw [rounds_succ]
      go_wp2
      go_ret
      exact ⟨by simp, Below.refl _ _⟩
    · obtain ⟨b, off, rfl, hb, hc⟩ := ha.some (by omega)
      obtain ⟨b', off', rfl, hb', hc'⟩ := ha'.some (by omega)
      clear ha ha'
      go_enter Try.func21, Try.ntmps21
      go_wp2
      go_loopw [5] (fun i wr => ∃ (k : Nat), k ≤ n ∧ i = .int .i64 k ∧ zs.take k = zs'.take k ∧ Below w.heap.size w wr) (fun i _ => n - (intOf i).toNat)
      case atStart => exact ⟨0, Nat.zero_le _, rfl, rfl, Below.refl _ _⟩
      case round =>
        obtain ⟨k, hk, rfl, ht, hbw⟩ := hrel
        by_cases hlt : k < n
        · have hcx : wr.cell? ⟨b, off + k, none⟩ = some (.int .i64 (zs.getD k 0)) := (hbw.cell hb).trans (hc k (by omega))
          have hcy : wr.cell? ⟨b', off' + k, none⟩ = some (.int .i64 (zs'.getD k 0)) := (hbw.cell hb').trans (hc' k (by omega))
          have HT : Hid (zs.getD k 0 = zs'.getD k 0 → zs.take (k + 1) = zs'.take (k + 1)) := fun e => by
            rw [take_succ_getD zs k (by omega), take_succ_getD zs' k (by omega), ht, e]
          have HN : Hid (zs.getD k 0 ≠ zs'.getD k 0 → zs ≠ zs') := ne_of_getD
          obtain ⟨x, hx⟩ : ∃ x, x = zs.getD k 0 := ⟨_, rfl⟩
          obtain ⟨y, hy⟩ : ∃ y, y = zs'.getD k 0 := ⟨_, rfl⟩
          rw [← hx] at hcx HT HN
          rw [← hy] at hcy HT HN
          clear hx hy ht hc hc'
          go_wp2
          go_quiet (fail)
          go_wp2
          · have hne : x ≠ y := by simpa using ‹(x != y) = true›
            go_ret
            exact ⟨by simp [HN.out hne], below_drewN hbw _⟩
          · have he : x = y := by simpa using ‹(x != y) = false›
            go_roundw
            case rel => exact ⟨k + 1, by omega, by go_num, HT.out he, below_drewN hbw _⟩
            case measure => simp [intOf]; omega
        · go_wp2
          go_ret
          exact ⟨by simp [take_all_eq (by omega) (by omega) ht], hbw⟩
  · go_enter Try.func21, Try.ntmps21
    go_wp2
    go_ret
    exact ⟨by have : zs ≠ zs' := fun e => hnn (by rw [← hz, ← hz', e]); simp [this], Below.refl _ _⟩

set_option maxHeartbeats 400000 in
theorem markIntS_any (base : Nat) (a : Option Addr) (n c : Nat) (cs : List Value) (m : Int) (w : World) (hn : n ≤ 1048576) (h0 : 0 ≤ m) (h1 : m ≤ 1073741824) (hown : w.ownsRow base 3 1 (.slice a n c) n cs) :
    Calls Try.prog 27 #[.slice a n c, .int .i64 m] w fun e w' => e = .returned (.int .i64 (m + n)) ∧
      w'.ownsRow base 3 1 (.slice a n c) n ((marks m n).map (.int .i64)) ∧ w.grownBy w' (Value.slice a n c).ownBlock := by
  rcases hown.2 with ⟨hv, h00⟩ | ⟨g, cap, cur, hv, hjunk⟩
  · simp only [Value.slice.injEq] at hv
    obtain ⟨rfl, rfl, rfl⟩ := hv
    go_enter Try.func27, Try.ntmps27
    go_wp2
    refine wp_loop_rounds 1 ?_
    rw [rounds_succ]
    go_wp2
    go_ret
    exact ⟨by simp, by simpa [marks] using World.ownsRow_nil w base 3 1, World.grownBy.refl _ _⟩
  · simp only [Value.slice.injEq, true_and] at hv
    obtain ⟨rfl, rfl⟩ := hv
    clear hjunk
    have hu0 := Upto.zero (cs := cs) (zs := marks m n) (by rw [marks_length]; simpa using hown.1)
    go_enter Try.func27, Try.ntmps27
    go_wp2
    go_loopw [1, 5] (fun q i wr => ∃ (k : Nat) (cs : List Value), k ≤ n ∧ i = .int .i64 k ∧ q = .int .i64 (m + k) ∧ Upto cs (marks m n) k ∧ wr.ownsRow base 3 1 (.slice (some ⟨g, 0, none⟩) n c) n cs ∧ w.grownBy wr (some g)) (fun _ i _ => n - (intOf i).toNat)
    case atStart => exact ⟨0, cs, Nat.zero_le _, rfl, by simp, hu0, hown, World.grownBy.refl _ _⟩
    case round =>
      clear hown hu0 cs
      obtain ⟨k, cs, hk, rfl, rfl, hu, hown, hbw⟩ := hrel
      by_cases hlt : k < n
      · obtain ⟨u, hu'⟩ : ∃ u, cs[k]? = some u := ⟨_, List.getElem?_eq_getElem (by have := hu.1; rw [marks_length] at this; omega)⟩
        have hco : wr.cell? ⟨g, k, none⟩ = some u := (hown.cellAt k (by omega)).trans hu'
        have hfo : wr.frozen? ⟨g, k, none⟩ = false := hown.frozenAt k
        have hst := hown.stored k (.int .i64 (m + k))
        have hset := hu.set (by rw [marks_length]; omega)
        rw [marks_getD m n k hlt] at hset
        have HU : Hid (Upto (cs.set k (.int .i64 (m + k))) (marks m n) (k + 1)) := hset
        have HO : Hid ((wr.setCell ⟨g, k, none⟩ (.int .i64 (m + k))).ownsRow base 3 1 (.slice (some ⟨g, 0, none⟩) n c) n (cs.set k (.int .i64 (m + k)))) := hst.1
        have HB : Hid (w.grownBy (wr.setCell ⟨g, k, none⟩ (.int .i64 (m + k))) (some g)) :=
          ⟨hst.2.os.trans hbw.os, hst.2.tape.trans hbw.tape, hst.2.output.trans hbw.output, Nat.le_trans hbw.size hst.2.size, fun j hj hne => (hst.2.block j (Nat.lt_of_lt_of_le hj hbw.size) hne).trans (hbw.block j hj hne)⟩
        clear hst hu' hown hu hbw hset
        go_wp2
        go_roundw
        case rel => exact ⟨k + 1, _, by omega, by go_num, by go_num, HU.out, HO.out, HB.out⟩
        case measure => simp [intOf]; omega
      · go_wp2
        go_ret
        rw [hu.all (by rw [marks_length]; omega)] at hown
        obtain rfl : k = n := by omega
        exact ⟨rfl, hown, hbw⟩

set_option maxHeartbeats 400000 in
theorem heldIntS_any (a : Option Addr) (n c : Nat) (m : Int) (w : World) (hn : n ≤ 1048576) (h0 : 0 ≤ m) (h1 : m ≤ 1073741824) (ha : At w a (marks m n)) :
    Calls Try.prog 29 #[.slice a n c, .int .i64 m] w fun e w' => e = .returned (.int .i64 (m + n)) ∧ w' = w := by
  by_cases hz : n = 0
  · subst hz
    go_enter Try.func29, Try.ntmps29
    go_wp2
    refine wp_loop_rounds 1 ?_
    rw [rounds_succ]
    go_wp2
    go_ret
    exact ⟨by simp, rfl⟩
  · obtain ⟨b, off, rfl, hb, hc⟩ := ha.some (by rw [marks_length]; omega)
    clear ha
    go_enter Try.func29, Try.ntmps29
    go_wp2
    go_loop [1, 5] (fun q i => ∃ (k : Nat), k ≤ n ∧ i = .int .i64 k ∧ q = .int .i64 (m + k)) (fun _ i => n - (intOf i).toNat)
    case atStart => exact ⟨0, Nat.zero_le _, rfl, by simp⟩
    case round =>
      obtain ⟨k, hk, rfl, rfl⟩ := hrel
      by_cases hlt : k < n
      · have hcx := hc k (by rw [marks_length]; omega)
        rw [marks_getD m n k hlt] at hcx
        clear hc
        go_wp2
        go_round
        case rel => exact ⟨k + 1, by omega, by go_num, by go_num⟩
        case measure => simp [intOf]; omega
      · go_wp2
        go_ret
        obtain rfl : k = n := by omega
        exact ⟨rfl, rfl⟩

theorem toIntS_at (a : Option Addr) (n c : Nat) (zs : List Int) (w : World) (hz : zs.length = n) (hn : n ≤ 1048576) (ha : At w a zs) :
    Calls Try.prog 17 #[.slice a n c] w fun e w' => ∃ g, e = .returned (.slice (some ⟨g, 0, none⟩) n n) ∧
      w'.ownsRow w.heap.size 3 1 (.slice (some ⟨g, 0, none⟩) n n) n (zs.map (.int .i64)) ∧ Below w.heap.size w w' :=
  (toIntS_any a n c zs w hz hn ha).mono fun _ _ ⟨h1, h2, h3⟩ => ⟨_, h1, h2, h3⟩
theorem heldIntS_any' (a : Option Addr) (n c : Nat) (m : Int) (w : World) (hn : n ≤ 1048576) (h0 : 0 ≤ m) (h1 : m ≤ 1073741824) (ha : At w a (marks m n)) :
    Calls Try.prog 29 #[.slice a n c, .int .i64 m] w fun e w' => e = .returned (.int .i64 (m + n)) ∧ Below w.heap.size w w' :=
  (heldIntS_any a n c m w hn h0 h1 ha).mono fun _ _ ⟨h1, h2⟩ => ⟨h1, h2 ▸ Below.refl _ _⟩

end Go.Proofs.Ythdcjelahoiepab

/- Contracts of the laws' helpers over rows: szRow, toRow, eqRow. -/
namespace Go.Proofs.Ythdcjelahoiepab
open Go.RowKit

end Go.Proofs.Ythdcjelahoiepab

/- Contracts of the laws' helpers over weighted rows: szWeighted, szWeightedS, szTable, toWeighted, toWeightedS, toTable. -/
namespace Go.Proofs.Ythdcjelahoiepab
open Go.RowKit

/-- What szWeightedS takes: a slot a row, and the rows' cells. -/
theorem wtot_cells (ts : List WRow) (k : Nat) (h : k ≤ ts.length) : ∃ s : Nat, wtot ts k = k + s := ⟨wtot ts k - k, by have := wtot_len ts k h; omega⟩

end Go.Proofs.Ythdcjelahoiepab

/- Contracts of the laws' helpers that mark tables: markWeightedS, markTable, heldWeightedS, heldTable. -/
namespace Go.Proofs.Ythdcjelahoiepab
open Go.RowKit

/-- The first k rows as the laws mark them, the others as they were. -/
def mixW (m : Int) (ts : List WRow) (k : Nat) : List WRow := (List.range ts.length).map fun i => if i < k then (marks (m + wtot ts i) (wat ts i).1.length, m + wtot ts i + (wat ts i).1.length) else wat ts i
theorem mixW_length (m : Int) (ts : List WRow) (k : Nat) : (mixW m ts k).length = ts.length := by simp [mixW]
theorem mixW_at (m : Int) (ts : List WRow) (k i : Nat) (h : i < ts.length) : wat (mixW m ts k) i = if i < k then (marks (m + wtot ts i) (wat ts i).1.length, m + wtot ts i + (wat ts i).1.length) else wat ts i := by
  simp [mixW, h]
theorem mixW_zero (m : Int) (ts : List WRow) : mixW m ts 0 = ts := by
  apply List.ext_getElem?
  intro i
  by_cases h : i < ts.length
  · simp [mixW, h]
  · simp [mixW, h]
theorem mixW_all (m : Int) (ts : List WRow) : mixW m ts ts.length = markW m ts := by
  unfold mixW markW
  exact List.map_congr_left fun i hi => if_pos (List.mem_range.1 hi)
theorem mixW_len (m : Int) (ts : List WRow) (k i : Nat) (h : i < ts.length) : (wat (mixW m ts k) i).1.length = (wat ts i).1.length := by
  rw [mixW_at m ts k i h]
  by_cases e : i < k
  · rw [if_pos e]; exact marks_length _ _
  · rw [if_neg e]

theorem OwnWk.marked {w w2 : World} {lo hi : Nat} {te ti : TypeId} {g n c k l : Nat} {ts : List WRow} {cells : List Value} {m : Int} {a' : Option Addr} {c' : Nat} (h : OwnW w lo hi te ti (some ⟨g, 0, none⟩) n c (mixW m ts k) cells) (hz : ts.length = n) (hk : k < n)
    (hl : (wat ts k).1.length = l) (hcell : cells[k * 2]? = some (.slice a' l c')) (hrow : w2.ownsRow lo ti 1 (.slice a' l c') l ((marks (m + wtot ts k) l).map (.int .i64))) (hg : w.grownBy w2 (Value.slice a' l c').ownBlock) :
    OwnW (w2.setCell ⟨g, k * 2 + 1, none⟩ (.int .i64 (m + wtot ts k + l))) lo hi te ti (some ⟨g, 0, none⟩) n c (mixW m ts (k + 1)) (cells.set (k * 2 + 1) (.int .i64 (m + wtot ts k + l))) := by
  have hbk : blkW cells k = (Value.slice a' l c').ownBlock := blkW_of hcell
  have hl2 := h.outer.1
  have hgk : ∀ b, (Value.slice a' l c').ownBlock = some b → g ≠ b := fun b hb e => by
    have := (h.rowLt k hk b (by rw [hbk]; exact hb)).2
    simp [Value.ownBlock, e] at this
  have ho2 : w2.ownsRow lo te 2 (.slice (some ⟨g, 0, none⟩) n c) n cells := h.outer.kept hg (.inr (fun e => by
    have h1 : (Value.slice a' l c').ownBlock = some g := by rw [← e]; rfl
    exact hgk g h1 rfl))
  have hset : ∀ i, (cells.set (k * 2 + 1) (.int .i64 (m + wtot ts k + l)))[i * 2]? = cells[i * 2]? := fun i => by rw [List.getElem?_set_ne (by omega)]
  have hbs : ∀ i, blkW (cells.set (k * 2 + 1) (.int .i64 (m + wtot ts k + l))) i = blkW cells i := fun i => by simp only [blkW, List.getD, hset i]
  have hgs : w2.grownBy (w2.setCell ⟨g, k * 2 + 1, none⟩ (.int .i64 (m + wtot ts k + l))) (some g) :=
    ⟨rfl, rfl, rfl, by simp [World.setCell], fun j _ hn => Below.heap_setCell _ _ _ j (fun e => hn (by rw [e]))⟩
  refine ⟨by rw [mixW_length]; exact hz, by have := h.top; have := hg.size; simp [World.setCell]; omega, (ho2.stored _ _).1, h.outerLt, fun i hi => ?_, fun i hi b hb => ?_, fun i j hi hj hij b hb => ?_⟩
  · by_cases e : i = k
    · subst e
      rw [mixW_at m ts (i + 1) i (by omega), if_pos (by omega)]
      refine ⟨a', c', ?_, ?_, ?_⟩
      · rw [hset]; simp only [marks_length, hl]; exact hcell
      · rw [List.getElem?_set_self (by omega), hl]
      · simp only [marks_length, hl]
        refine hrow.kept hgs ?_
        cases hv : (Value.slice a' l c').ownBlock with
        | none => exact .inl rfl
        | some b => exact .inr (fun e => hgk b hv (by simpa using e.symm))
    · obtain ⟨a1, c1, k1, k2, k3⟩ := h.row i hi
      have hm1 : wat (mixW m ts (k + 1)) i = wat (mixW m ts k) i := by
        rw [mixW_at m ts (k + 1) i (by omega), mixW_at m ts k i (by omega)]
        by_cases e1 : i < k
        · rw [if_pos e1, if_pos (by omega)]
        · rw [if_neg e1, if_neg (by omega)]
      rw [hm1]
      refine ⟨a1, c1, by rw [hset]; exact k1, by rw [List.getElem?_set_ne (by omega)]; exact k2, (k3.kept hg ?_).kept hgs ?_⟩
      · cases hv : (Value.slice a1 (wat (mixW m ts k) i).1.length c1).ownBlock with
        | none => exact .inl rfl
        | some b => exact .inr (fun e' => h.apart i k hi hk e b (by rw [blkW_of k1]; exact hv) (by rw [hbk]; exact e'.symm))
      · cases hv : (Value.slice a1 (wat (mixW m ts k) i).1.length c1).ownBlock with
        | none => exact .inl rfl
        | some b => exact .inr (fun e' => by have := (h.rowLt i hi b (by rw [blkW_of k1]; exact hv)).2; simp [Value.ownBlock] at e' this; omega)
  · rw [hbs] at hb; exact h.rowLt i hi b hb
  · rw [hbs] at hb ⊢; exact h.apart i j hi hj hij b hb

end Go.Proofs.Ythdcjelahoiepab

/- Contracts of the laws' helpers over weighted rows: eqWeighted, eqWeightedS, eqTable. -/
namespace Go.Proofs.Ythdcjelahoiepab
open Go.RowKit

end Go.Proofs.Ythdcjelahoiepab

/- Plain functions on lists of numbers: what the program's row functions answer. -/
namespace Go.Proofs.Ythdcjelahoiepab

def inb (z : Int) : Bool := decide (-100000 ≤ z) && decide (z ≤ 100000)
/-- A good row's cells. -/
def good (zs : List Int) : Bool := decide (zs.length ≤ 6) && zs.all inb

theorem good_len {zs : List Int} (h : good zs = true) : zs.length ≤ 6 := by simp [good] at h; exact h.1
theorem good_cell {zs : List Int} (h : good zs = true) (k : Nat) (hk : k < zs.length) : -100000 ≤ zs.getD k 0 ∧ zs.getD k 0 ≤ 100000 := by
  simp [good, inb] at h
  have := h.2 (zs[k]) (List.getElem_mem hk)
  simpa [List.getD, hk] using this
theorem good_long {zs : List Int} (h : 6 < zs.length) : good zs = false := by simp [good]; omega
theorem not_good_cell {zs : List Int} (k : Nat) (hk : k < zs.length) (h : zs.getD k 0 < -100000 ∨ 100000 < zs.getD k 0) : good zs = false := by
  cases hg : good zs with
  | false => rfl
  | true => have := good_cell hg k hk; omega
theorem good_of {zs : List Int} (hl : zs.length ≤ 6) (h : ∀ k, k < zs.length → -100000 ≤ zs.getD k 0 ∧ zs.getD k 0 ≤ 100000) : good zs = true := by
  simp only [good, Bool.and_eq_true, decide_eq_true_eq, List.all_eq_true, inb]
  refine ⟨hl, fun x hx => ?_⟩
  obtain ⟨k, hk, rfl⟩ := List.getElem_of_mem hx
  simpa [List.getD, hk] using h k hk

/-- Cell by cell; the first unlike one decides; a row that ends there is less. -/
def cmp : List Int → List Int → Int
  | [], [] => 0
  | [], _ :: _ => -1
  | _ :: _, [] => 1
  | x :: xs, y :: ys => if x < y then -1 else if y < x then 1 else cmp xs ys

theorem cmp_drop (xs ys : List Int) (k : Nat) (h1 : k < xs.length) (h2 : k < ys.length) :
    cmp (xs.drop k) (ys.drop k) = if xs.getD k 0 < ys.getD k 0 then -1 else if ys.getD k 0 < xs.getD k 0 then 1 else cmp (xs.drop (k + 1)) (ys.drop (k + 1)) := by
  rw [List.drop_eq_getElem_cons h1, List.drop_eq_getElem_cons h2, cmp]
  simp [List.getD, h1, h2]

theorem cmp_end (xs ys : List Int) (k : Nat) (h : k = xs.length ∨ k = ys.length) (h1 : k ≤ xs.length) (h2 : k ≤ ys.length) :
    cmp (xs.drop k) (ys.drop k) = if xs.length < ys.length then -1 else if ys.length < xs.length then 1 else 0 := by
  rcases h with rfl | rfl
  · rw [List.drop_length]
    by_cases e : xs.length = ys.length
    · rw [List.drop_eq_nil_of_le (by omega), if_neg (by omega), if_neg (by omega)]; rfl
    · rw [List.drop_eq_getElem_cons (by omega), if_pos (by omega)]; rfl
  · rw [List.drop_length]
    by_cases e : xs.length = ys.length
    · rw [List.drop_eq_nil_of_le (by omega), if_neg (by omega), if_neg (by omega)]; rfl
    · rw [List.drop_eq_getElem_cons (by omega), if_neg (by omega), if_pos (by omega)]; rfl

theorem cmp_self (xs : List Int) : cmp xs xs = 0 := by
  induction xs with
  | nil => rfl
  | cons x xs ih => simp [cmp, ih]

def good2 (xs ys : List Int) : Bool := good xs && good ys
def cmpAns (xs ys : List Int) : Int := if good xs && good ys then cmp xs ys else 0

/-- A cell's three bytes. -/
def cellNums (z : Int) : List Int := [(z + 100000) / 65536, (z + 100000) / 256 % 256, (z + 100000) % 256]
def rowNumsTo (zs : List Int) (k : Nat) : List Int := (zs.length : Int) :: (zs.take k).flatMap cellNums
def rowNums (zs : List Int) : List Int := (zs.length : Int) :: zs.flatMap cellNums

theorem take_snocD (zs : List Int) (k : Nat) (h : k < zs.length) : zs.take (k + 1) = zs.take k ++ [zs.getD k 0] := by
  rw [List.take_succ_eq_append_getElem h]; simp [List.getD, h]
theorem rowNumsTo_succ (zs : List Int) (k : Nat) (h : k < zs.length) : rowNumsTo zs (k + 1) = rowNumsTo zs k ++ cellNums (zs.getD k 0) := by
  unfold rowNumsTo
  rw [take_snocD zs k h, List.flatMap_append]
  simp only [List.flatMap_cons, List.flatMap_nil, List.append_nil, List.cons_append]
theorem rowNumsTo_all (zs : List Int) : rowNumsTo zs zs.length = rowNums zs := by simp [rowNumsTo, rowNums]
theorem rowNumsTo_length (zs : List Int) (k : Nat) (h : k ≤ zs.length) : (rowNumsTo zs k).length = 1 + 3 * k := by
  induction k with
  | zero => simp [rowNumsTo]
  | succ k ih => rw [rowNumsTo_succ zs k (by omega), List.length_append, ih (by omega)]; simp [cellNums]; omega

/-- The row itself where it is good, else the empty one. -/
def goodOr (zs : List Int) : List Int := if good zs then zs else []

def byt (s : ByteArray) (k : Nat) : Nat := (s.data.toList.getD k 0).toNat
/-- The j-th cell that a row's bytes tell. -/
def cellAt (s : ByteArray) (j : Nat) : Int := (byt s (1 + 3 * j) : Int) * 65536 + (byt s (1 + 3 * j + 1) : Int) * 256 + (byt s (1 + 3 * j + 2) : Int) - 100000
def cellsTo (s : ByteArray) (k : Nat) : List Int := (List.range k).map (cellAt s)
theorem byt_lt (s : ByteArray) (k : Nat) : byt s k < 256 := (s.data.toList.getD k 0).toNat_lt
theorem byt_at (s : ByteArray) (k : Nat) (h : k < s.size) : (s[k]'h).toNat = byt s k := by
  have h' : k < s.data.size := h
  unfold byt
  rw [show s.data.toList.getD k 0 = s[k] from by simp only [List.getD, Array.getElem?_toList, Array.getElem?_eq_getElem h', Option.getD_some]; rfl]
theorem cellsTo_succ (s : ByteArray) (k : Nat) : cellsTo s (k + 1) = cellsTo s k ++ [cellAt s k] := by simp [cellsTo, List.range_succ]
theorem cellsTo_length (s : ByteArray) (k : Nat) : (cellsTo s k).length = k := by simp [cellsTo]

/-- A good row's cells raised above 0, and 0 behind the last one. -/
def raised (zs : List Int) : List Int := zs.map (· + 100001) ++ List.replicate (6 - zs.length) 0

theorem cmp_raised' (xs : List Int) : ∀ (ys : List Int) (a b : Nat), (∀ x ∈ xs, -100000 ≤ x) → (∀ y ∈ ys, -100000 ≤ y) → xs.length + a = ys.length + b →
    cmp (xs.map (· + 100001) ++ List.replicate a 0) (ys.map (· + 100001) ++ List.replicate b 0) = cmp xs ys := by
  induction xs with
  | nil =>
    intro ys a b _ hy hl
    cases ys with
    | nil => simp at hl; subst hl; simp [cmp_self, cmp]
    | cons y ys =>
      obtain ⟨a', rfl⟩ : ∃ a', a = a' + 1 := ⟨a - 1, by simp at hl; omega⟩
      have := hy y (by simp)
      simp [List.replicate_succ, cmp]
      omega
  | cons x xs ih =>
    intro ys a b hx hy hl
    have h0 := hx x (by simp)
    cases ys with
    | nil =>
      obtain ⟨b', rfl⟩ : ∃ b', b = b' + 1 := ⟨b - 1, by simp at hl; omega⟩
      simp only [List.map_cons, List.cons_append, List.map_nil, List.nil_append, List.replicate_succ, cmp]
      rw [if_neg (by omega), if_pos (by omega)]
    | cons y ys =>
      have h1 := hy y (by simp)
      simp only [List.map_cons, List.cons_append, cmp]
      rw [ih ys a b (fun z hz => hx z (by simp [hz])) (fun z hz => hy z (by simp [hz])) (by simp at hl; omega)]
      by_cases e1 : x < y
      · rw [if_pos (by omega), if_pos e1]
      · rw [if_neg (by omega), if_neg e1]
        by_cases e2 : y < x
        · rw [if_pos (by omega), if_pos e2]
        · rw [if_neg (by omega), if_neg e2]

theorem good_mem {zs : List Int} (h : good zs = true) : ∀ z ∈ zs, -100000 ≤ z ∧ z ≤ 100000 := by
  simp only [good, Bool.and_eq_true, List.all_eq_true, inb, decide_eq_true_eq] at h
  exact h.2

theorem cmp_raised {xs ys : List Int} (hx : good xs = true) (hy : good ys = true) : cmp (raised xs) (raised ys) = cmp xs ys := by
  have h1 := good_len hx
  have h2 := good_len hy
  exact cmp_raised' xs ys _ _ (fun z hz => (good_mem hx z hz).1) (fun z hz => (good_mem hy z hz).1) (by omega)

/-- The array while it is filled. -/
def rowTo (zs : List Int) (k : Nat) : List Int := (zs.take k).map (· + 100001) ++ List.replicate (6 - k) 0

theorem rowTo_length (zs : List Int) (k : Nat) (h : k ≤ zs.length) (h6 : k ≤ 6) : (rowTo zs k).length = 6 := by simp [rowTo]; omega

theorem rowTo_set (zs : List Int) (k : Nat) (h : k < zs.length) (h6 : k < 6) : (rowTo zs k).set k (zs.getD k 0 + 100001) = rowTo zs (k + 1) := by
  unfold rowTo
  rw [List.set_append_right _ _ (by simp; omega)]
  rw [show k - (List.map (· + 100001) (List.take k zs)).length = 0 by simp; omega]
  rw [show 6 - k = (6 - (k + 1)) + 1 by omega, List.replicate_succ, List.set_cons_zero]
  rw [List.take_succ_eq_append_getElem h, List.map_append, List.append_assoc]
  simp [List.getD, h]

theorem rowTo_all (zs : List Int) : rowTo zs zs.length = raised zs := by simp [rowTo, raised]

theorem raised_length {zs : List Int} (h : zs.length ≤ 6) : (raised zs).length = 6 := by simp [raised]; omega

end Go.Proofs.Ythdcjelahoiepab

/- Plain functions on lists of weighted rows: what a good table is. -/
namespace Go.Proofs.Ythdcjelahoiepab

def inw (x : Int) : Bool := decide (-1000000 ≤ x) && decide (x ≤ 1000000)
def inc (p : Int) : Bool := decide (0 ≤ p) && decide (p ≤ 6)
/-- A row that may be handed in. -/
def goodW (p : Int) (t : WRow) : Bool := good t.1 && (decide ((t.1.length : Int) = p) && inw t.2)
/-- The k-th row may stand in a table. -/
def stepB (p : Int) (ts : List WRow) (k : Nat) : Bool := goodW p (wat ts k) && (!decide ((wat ts k).2 = 0) && (decide (k = 0) || decide (cmp (wat ts (k - 1)).1 (wat ts k).1 < 0)))
/-- A good table. -/
def goodT (p : Int) (ts : List WRow) : Bool := inc p && (decide (ts.length ≤ 60) && (List.range ts.length).all (stepB p ts))
def goodL (p : Int) (ts : List WRow) : Bool := ts.all (goodW p)

theorem goodW_cells {p : Int} {t : WRow} (h : goodW p t = true) : good t.1 = true ∧ (t.1.length : Int) = p ∧ -1000000 ≤ t.2 ∧ t.2 ≤ 1000000 := by
  simpa [goodW, inw] using h
theorem goodW_mk {p : Int} {t : WRow} (h1 : good t.1 = true) (h2 : (t.1.length : Int) = p) (h3 : inw t.2 = true) : goodW p t = true := by
  simp [goodW, h1, h2, h3]
theorem goodW_row {p : Int} {t : WRow} (h : good t.1 = false) : goodW p t = false := by simp [goodW, h]
theorem goodW_len {p : Int} {t : WRow} (h : (t.1.length : Int) ≠ p) : goodW p t = false := by simp [goodW, h]
theorem goodW_wt {p : Int} {t : WRow} (h : inw t.2 = false) : goodW p t = false := by simp [goodW, h]

theorem wat_mem {ts : List WRow} {k : Nat} (h : k < ts.length) : wat ts k ∈ ts := by
  rw [show wat ts k = ts[k] by simp [wat, List.getD, h]]; exact List.getElem_mem h

theorem goodL_of {p : Int} {ts : List WRow} (h : ∀ k, k < ts.length → goodW p (wat ts k) = true) : goodL p ts = true := by
  unfold goodL
  rw [List.all_eq_true]
  intro t ht
  obtain ⟨k, hk, rfl⟩ := List.getElem_of_mem ht
  simpa [wat, List.getD, hk] using h k hk
theorem goodL_at {p : Int} {ts : List WRow} (h : goodL p ts = true) (k : Nat) (hk : k < ts.length) : goodW p (wat ts k) = true := List.all_eq_true.1 h _ (wat_mem hk)
theorem goodL_not {p : Int} {ts : List WRow} (k : Nat) (hk : k < ts.length) (h : goodW p (wat ts k) = false) : goodL p ts = false := by
  cases hg : goodL p ts with
  | false => rfl
  | true => rw [goodL_at hg k hk] at h; cases h

theorem goodT_of {p : Int} {ts : List WRow} (h1 : inc p = true) (h2 : ts.length ≤ 60) (h : ∀ k, k < ts.length → stepB p ts k = true) : goodT p ts = true := by
  simp only [goodT, h1, decide_eq_true h2, Bool.true_and, List.all_eq_true, List.mem_range]; exact h
theorem goodT_parts {p : Int} {ts : List WRow} (h : goodT p ts = true) : inc p = true ∧ ts.length ≤ 60 ∧ ∀ k, k < ts.length → stepB p ts k = true := by
  simpa only [goodT, Bool.and_eq_true, decide_eq_true_eq, List.all_eq_true, List.mem_range] using h
theorem goodT_col {p : Int} {ts : List WRow} (h : inc p = false) : goodT p ts = false := by simp [goodT, h]
theorem goodT_len {p : Int} {ts : List WRow} (h : 60 < ts.length) : goodT p ts = false := by
  have : decide (ts.length ≤ 60) = false := by simp; omega
  simp [goodT, this]
theorem goodT_not {p : Int} {ts : List WRow} (k : Nat) (hk : k < ts.length) (h : stepB p ts k = false) : goodT p ts = false := by
  cases hg : goodT p ts with
  | false => rfl
  | true => rw [(goodT_parts hg).2.2 k hk] at h; cases h
theorem stepB_good {p : Int} {ts : List WRow} {k : Nat} (h : stepB p ts k = true) : goodW p (wat ts k) = true := by
  simp only [stepB, Bool.and_eq_true] at h; exact h.1
theorem stepB_row {p : Int} {ts : List WRow} {k : Nat} (h : goodW p (wat ts k) = false) : stepB p ts k = false := by simp only [stepB, h, Bool.false_and]
theorem stepB_zero {p : Int} {ts : List WRow} {k : Nat} (h : (wat ts k).2 = 0) : stepB p ts k = false := by simp only [stepB, h, decide_true, Bool.not_true, Bool.false_and, Bool.and_false]
theorem stepB_cmp {p : Int} {ts : List WRow} {k : Nat} (h0 : k ≠ 0) (h : ¬ cmp (wat ts (k - 1)).1 (wat ts k).1 < 0) : stepB p ts k = false := by
  simp only [stepB, decide_eq_false h0, decide_eq_false h, Bool.or_false, Bool.and_false]
theorem stepB_mk {p : Int} {ts : List WRow} {k : Nat} (h1 : goodW p (wat ts k) = true) (h2 : (wat ts k).2 ≠ 0) (h3 : k = 0 ∨ cmp (wat ts (k - 1)).1 (wat ts k).1 < 0) : stepB p ts k = true := by
  rcases h3 with h3 | h3 <;> simp only [stepB, h1, decide_eq_false h2, decide_eq_true h3, Bool.not_false, Bool.true_and, Bool.or_true, Bool.true_or]
theorem goodL_of_goodT {p : Int} {ts : List WRow} (h : goodT p ts = true) : goodL p ts = true := goodL_of fun k hk => stepB_good ((goodT_parts h).2.2 k hk)
theorem goodT_goodL {p : Int} {ts : List WRow} (h : goodL p ts = false) : goodT p ts = false := by
  cases hg : goodT p ts with
  | false => rfl
  | true => rw [goodL_of_goodT hg] at h; cases h
theorem inc_range {p : Int} (h : inc p = true) : 0 ≤ p ∧ p ≤ 6 := by simpa [inc] using h

/-- cmp tells -1, 0 or 1. -/
theorem cmp_range (xs : List Int) : ∀ ys, cmp xs ys = -1 ∨ cmp xs ys = 0 ∨ cmp xs ys = 1 := by
  induction xs with
  | nil => intro ys; cases ys <;> simp [cmp]
  | cons x xs ih =>
    intro ys
    cases ys with
    | nil => simp [cmp]
    | cons y ys =>
      simp only [cmp]
      by_cases h1 : x < y
      · simp [h1]
      · by_cases h2 : y < x
        · simp [h1, h2]
        · simp [h1, h2, ih ys]

end Go.Proofs.Ythdcjelahoiepab

/- Plain facts: cmp is an order of the rows; the rows of a good table rise; the weight of a row. -/
namespace Go.Proofs.Ythdcjelahoiepab

theorem cmp_eq {xs : List Int} : ∀ {ys : List Int}, cmp xs ys = 0 → xs = ys := by
  induction xs with
  | nil => intro ys h; cases ys with
    | nil => rfl
    | cons y ys => simp [cmp] at h
  | cons x xs ih =>
    intro ys h
    cases ys with
    | nil => simp [cmp] at h
    | cons y ys =>
      simp only [cmp] at h
      by_cases h1 : x < y
      · simp [h1] at h
      · by_cases h2 : y < x
        · simp [h1, h2] at h
        · simp only [if_neg h1, if_neg h2] at h
          obtain rfl : x = y := by omega
          rw [ih h]

theorem cmp_swap (xs : List Int) : ∀ ys, cmp ys xs = - cmp xs ys := by
  induction xs with
  | nil => intro ys; cases ys <;> simp [cmp]
  | cons x xs ih =>
    intro ys
    cases ys with
    | nil => simp [cmp]
    | cons y ys =>
      simp only [cmp]
      by_cases h1 : x < y
      · rw [if_neg (by omega), if_pos h1, if_pos h1]; rfl
      · by_cases h2 : y < x
        · rw [if_pos h2, if_neg h1, if_pos h2]
        · rw [if_neg h2, if_neg h1, if_neg h1, if_neg h2, ih ys]

theorem cmp_trans {xs : List Int} : ∀ {ys zs : List Int}, cmp xs ys < 0 → cmp ys zs < 0 → cmp xs zs < 0 := by
  induction xs with
  | nil =>
    intro ys zs h1 h2
    cases ys with
    | nil => simp [cmp] at h1
    | cons y ys => cases zs with
      | nil => simp [cmp] at h2
      | cons z zs => simp [cmp]
  | cons x xs ih =>
    intro ys zs h1 h2
    cases ys with
    | nil => simp [cmp] at h1
    | cons y ys => cases zs with
      | nil => simp [cmp] at h2
      | cons z zs =>
        simp only [cmp] at *
        by_cases a1 : x < y
        · by_cases a2 : y < z
          · rw [if_pos (by omega)]; omega
          · rw [if_neg a2] at h2
            by_cases a3 : z < y
            · rw [if_pos a3] at h2; omega
            · rw [if_pos (by omega)]; omega
        · rw [if_neg a1] at h1
          by_cases a1' : y < x
          · rw [if_pos a1'] at h1; omega
          · rw [if_neg a1'] at h1
            by_cases a2 : y < z
            · rw [if_pos (by omega)]; omega
            · rw [if_neg a2] at h2
              by_cases a3 : z < y
              · rw [if_pos a3] at h2; omega
              · rw [if_neg a3] at h2
                rw [if_neg (by omega), if_neg (by omega)]
                exact ih h1 h2

theorem cmp_irrefl (xs : List Int) : ¬ cmp xs xs < 0 := by rw [cmp_self]; omega
theorem cmp_ne {xs ys : List Int} (h : cmp xs ys < 0) : xs ≠ ys := fun e => by rw [e] at h; exact cmp_irrefl ys h

/-- Rows that rise. -/
def Rises (ts : List WRow) : Prop := ts.Pairwise fun s t => cmp s.1 t.1 < 0

theorem rises_of {ts : List WRow} (h : ∀ k, k + 1 < ts.length → cmp (wat ts k).1 (wat ts (k + 1)).1 < 0) : Rises ts := by
  induction ts with
  | nil => exact List.Pairwise.nil
  | cons t ts ih =>
    have ih' : Rises ts := ih fun k hk => by simpa [wat, List.getD] using h (k + 1) (by simpa using hk)
    refine List.pairwise_cons.2 ⟨fun s hs => ?_, ih'⟩
    cases ts with
    | nil => simp at hs
    | cons u us =>
      have h0 : cmp t.1 u.1 < 0 := by simpa [wat, List.getD] using h 0 (by simp)
      rcases List.mem_cons.1 hs with rfl | hs
      · exact h0
      · exact cmp_trans h0 ((List.pairwise_cons.1 ih').1 s hs)

theorem goodT_rises {p : Int} {ts : List WRow} (h : goodT p ts = true) : Rises ts := rises_of fun k hk => by
  have := (goodT_parts h).2.2 (k + 1) hk
  simp only [stepB, Bool.and_eq_true, Bool.or_eq_true, decide_eq_true_eq] at this
  rcases this.2.2 with h0 | h0
  · omega
  · simpa using h0

theorem raised_inj {xs ys : List Int} (hx : good xs = true) (hy : good ys = true) (h : raised xs = raised ys) : xs = ys := by
  apply cmp_eq
  rw [← cmp_raised hx hy, h, cmp_self]

/-- The weight of a row, 0 where it is not there. -/
def wOf (ts : List WRow) (zs : List Int) : Int := ((ts.find? fun t => decide (t.1 = zs)).map fun t => t.2).getD 0

theorem wOf_nil (zs : List Int) : wOf [] zs = 0 := rfl
theorem wOf_cons (t : WRow) (ts : List WRow) (zs : List Int) : wOf (t :: ts) zs = if t.1 = zs then t.2 else wOf ts zs := by
  unfold wOf
  by_cases e : t.1 = zs <;> simp [e]
theorem wOf_absent {ts : List WRow} {zs : List Int} (h : ∀ t ∈ ts, t.1 ≠ zs) : wOf ts zs = 0 := by
  induction ts with
  | nil => rfl
  | cons t ts ih => rw [wOf_cons, if_neg (h t (by simp))]; exact ih fun s hs => h s (by simp [hs])
theorem wOf_drop (ts : List WRow) (k : Nat) (zs : List Int) (h : k < ts.length) : wOf (ts.drop k) zs = if (wat ts k).1 = zs then (wat ts k).2 else wOf (ts.drop (k + 1)) zs := by
  rw [List.drop_eq_getElem_cons h, wOf_cons]
  simp [wat, List.getD, h]

end Go.Proofs.Ythdcjelahoiepab
