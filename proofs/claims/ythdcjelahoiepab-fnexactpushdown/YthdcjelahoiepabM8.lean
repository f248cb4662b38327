/- Several texts of one proof, in build order: TabU, PlainPick, Pick, PlainJoin, Pairs. -/
import Derived.Test.YthdcjelahoiepabM6
import Derived.Test.YthdcjelahoiepabM7
import Derived.Test.YthdcjelahoiepabM3
import Derived.Test.YthdcjelahoiepabM5
import Derived.Deep.AppendLies
import Derived.Deep.RegionLaw
import Derived.Test.YthdcjelahoiepabM0

/- Plain facts on tables that are good, and on a result's variable behind 'return f(..)'. -/
namespace Go.Proofs.Ythdcjelahoiepab
open Go.RowKit

theorem OwnWk.stored {w : World} {lo hi R : Nat} {te ti : TypeId} {a : Option Addr} {n c : Nat} {ts : List WRow} {cells : List Value} {lo' : Nat} (h : OwnW w lo hi te ti a n c ts cells) (hR : R < lo) (hlo : lo' ≤ lo) (u v : Value) :
    OwnW ((w.setCell ⟨R, 0, none⟩ u).setCell ⟨R, 1, none⟩ v) lo' ((w.setCell ⟨R, 0, none⟩ u).setCell ⟨R, 1, none⟩ v).heap.size te ti a n c ts cells :=
  ((h.setCell (a0 := ⟨R, 0, none⟩) (.inl hR) u).setCell (a0 := ⟨R, 1, none⟩) (.inl hR) v).widen hlo (by have := h.top; simp [World.setCell]; omega) (Nat.le_refl _)
theorem alloc_keeps {w : World} {a : Addr} {v : Value} (h : w.cell? a = some v) (o : Obj) : (w.alloc o).cell? a = some v := cell_later ((Below.refl _ _).alloc (Nat.le_refl _) o) h
theorem goodT_noZero {p : Int} {ts : List WRow} (h : goodT p ts = true) : NoZero ts := fun t ht => by
  obtain ⟨k, hk, rfl⟩ := List.getElem_of_mem ht
  have := (goodT_parts h).2.2 k hk
  simp only [stepB, Bool.and_eq_true, Bool.not_eq_true', decide_eq_false_iff_not] at this
  have e : wat ts k = ts[k] := by simp [wat, List.getD, hk]
  rw [e] at this
  exact this.2.1
theorem goodT_len60 {p : Int} {ts : List WRow} (h : goodT p ts = true) : ts.length ≤ 60 := (goodT_parts h).2.1
theorem goodT_cells {p : Int} {ts : List WRow} (h : goodT p ts = true) (k : Nat) (hk : k < ts.length) : good (wat ts k).1 = true ∧ -1000000 ≤ (wat ts k).2 ∧ (wat ts k).2 ≤ 1000000 := by
  have := goodW_cells (goodL_at (goodL_of_goodT h) k hk)
  exact ⟨this.1, this.2.2⟩
theorem goodT_mem {q : Nat} {ts : List WRow} (h : goodT q ts = true) : ∀ t ∈ ts, good t.1 = true ∧ t.1.length = q := fun t ht => by
  have := goodL_mem (goodL_of_goodT h) t ht
  exact ⟨this.1, by omega⟩
theorem goodT_six {p : Int} {ts : List WRow} (h : goodT p ts = true) : ∀ t ∈ ts, t.1.length ≤ 6 ∧ -1000000 ≤ t.2 ∧ t.2 ≤ 1000000 := fun t ht => by
  have := goodL_mem (goodL_of_goodT h) t ht
  exact ⟨good_len this.1, this.2.2⟩
theorem at_of_mem {ts : List WRow} {Q : WRow → Prop} (h : ∀ t ∈ ts, Q t) (k : Nat) (hk : k < ts.length) : Q (wat ts k) := h _ (wat_mem hk)

/-- A rising list that has no zeros tells its own weights. -/
theorem tells_self {q : Nat} {us : List WRow} (hr : Rises us) (hn : NoZero us) (hrow : ∀ t ∈ us, good t.1 = true ∧ t.1.length = q) : Tells q (sumAt us us.length 1) us :=
  ⟨hr, hn, hrow, fun zs h1 _ => by rw [sumAt_sumW rfl 1 (fun t ht => (hrow t ht).1) h1, sumW_rises hr]; omega⟩
/-- Some of its rows, the rows as they are, rise. -/
theorem rises_some {g : WRow → Option WRow} (hg : ∀ t s, g t = some s → s.1 = t.1) {ts : List WRow} (h : Rises ts) : Rises (ts.filterMap g) := by
  unfold Rises at *
  rw [List.pairwise_filterMap]
  exact h.imp fun {a b} hab s hs t ht => by rw [hg a s hs, hg b t ht]; exact hab
theorem some_mem {g : WRow → Option WRow} {ts : List WRow} {t : WRow} (h : t ∈ ts.filterMap g) : ∃ s ∈ ts, g s = some t := List.mem_filterMap.1 h

end Go.Proofs.Ythdcjelahoiepab

/- Plain functions: picking cells. -/
namespace Go.Proofs.Ythdcjelahoiepab

def colIn (n : Nat) (k : Int) : Bool := decide (0 ≤ k) && decide (k < n)
def colsOk (cols : List Int) (n : Nat) : Bool := decide (cols.length ≤ 6) && cols.all (colIn n)
def pick (zs cols : List Int) : List Int := cols.map fun k => zs.getD k.toNat 0
def pickOk (zs cols : List Int) : Bool := good zs && colsOk cols zs.length
def pickZ (zs cols : List Int) : List Int := if pickOk zs cols then pick zs cols else []

theorem colsOk_of {cols : List Int} {n : Nat} (hl : cols.length ≤ 6) (h : ∀ j, j < cols.length → 0 ≤ cols.getD j 0 ∧ cols.getD j 0 < n) : colsOk cols n = true := by
  simp only [colsOk, Bool.and_eq_true, decide_eq_true_eq, List.all_eq_true, colIn]
  refine ⟨hl, fun x hx => ?_⟩
  obtain ⟨k, hk, rfl⟩ := List.getElem_of_mem hx
  simpa [List.getD, hk] using h k hk
theorem colsOk_at {cols : List Int} {n : Nat} (h : colsOk cols n = true) (k : Nat) (hk : k < cols.length) : 0 ≤ cols.getD k 0 ∧ cols.getD k 0 < n := by
  simp only [colsOk, Bool.and_eq_true, decide_eq_true_eq, List.all_eq_true, colIn] at h
  have := h.2 (cols[k]) (List.getElem_mem hk)
  simpa [List.getD, hk] using this
theorem colsOk_long {cols : List Int} {n : Nat} (h : 6 < cols.length) : colsOk cols n = false := by simp [colsOk]; omega
theorem colsOk_len {cols : List Int} {n : Nat} (h : colsOk cols n = true) : cols.length ≤ 6 := by
  simp only [colsOk, Bool.and_eq_true, decide_eq_true_eq] at h; exact h.1
theorem not_colsOk {cols : List Int} {n : Nat} (k : Nat) (hk : k < cols.length) (h : cols.getD k 0 < 0 ∨ (n : Int) ≤ cols.getD k 0) : colsOk cols n = false := by
  cases hg : colsOk cols n with
  | false => rfl
  | true => have := colsOk_at hg k hk; omega
theorem pick_succ (zs cols : List Int) (k : Nat) (h : k < cols.length) : pick zs (cols.take (k + 1)) = pick zs (cols.take k) ++ [zs.getD (cols.getD k 0).toNat 0] := by
  unfold pick
  rw [take_snocD cols k h, List.map_append]; rfl
theorem pick_length (zs cols : List Int) (k : Nat) (h : k ≤ cols.length) : (pick zs (cols.take k)).length = k := by simp [pick]; omega
theorem pickZ_small (zs cols : List Int) : (pickZ zs cols).length ≤ 6 := by
  unfold pickZ
  split
  · rename_i h
    simp only [pickOk, Bool.and_eq_true] at h
    have := colsOk_len h.2
    simpa [pick] using this
  · simp

end Go.Proofs.Ythdcjelahoiepab

/- Contracts of impl.PickCells, spec.l1Columns, spec.l1Pick, spec.PickCells. -/
namespace Go.Proofs.Ythdcjelahoiepab
open Go.RowKit

set_option maxRecDepth 100000 in
set_option maxHeartbeats 4000000 in
theorem implPickCells (a a' : Option Addr) (n n' c c' : Nat) (zs cols : List Int) (w : World) (hz : zs.length = n) (hz' : cols.length = n') (hn : n ≤ 9223372036854775807) (hn' : n' ≤ 9223372036854775807) (ha : At w a zs) (ha' : At w a' cols) :
    Calls Try.prog 79 #[.agg #[.slice a n c], .slice a' n' c'] w fun e w' => ∃ r m d, e = .returned (.tuple #[.agg #[.slice r m d], .bool (pickOk zs cols)]) ∧
      (pickZ zs cols).length = m ∧ w'.ownsRow w.heap.size 3 1 (.slice r m d) m ((pickZ zs cols).map (.int .i64)) ∧ Below w.heap.size w w' := by
  obtain ⟨W, hW⟩ : ∃ W, W = (w.alloc (.cells #[.slice a n c] 124)).alloc (.cells #[.slice none 0 0] 124) := ⟨_, rfl⟩
  have B : Below w.heap.size w W := by rw [hW]; exact ((Below.refl _ _).alloc (Nat.le_refl _) _).alloc (by simp) _
  have HA : At W a zs := ha.below B
  have c1 : W.cell? ⟨w.heap.size, 0, none⟩ = some (.slice a n c) := by rw [hW]; simp
  have c2 : W.cell? ⟨w.heap.size + 1, 0, none⟩ = some (.slice none 0 0) := by rw [hW]; simp
  have f2 : W.frozen? ⟨w.heap.size + 1, 0, none⟩ = false := by rw [hW]; simp
  have no : pickOk zs cols = false → ∀ w2, Below w.heap.size w w2 → ∃ r m d, Ending.returned (.tuple #[.agg #[.slice none 0 0], .bool false]) = .returned (.tuple #[.agg #[.slice r m d], .bool (pickOk zs cols)]) ∧
      (pickZ zs cols).length = m ∧ w2.ownsRow w.heap.size 3 1 (.slice r m d) m ((pickZ zs cols).map (.int .i64)) ∧ Below w.heap.size w w2 := fun h w2 hb =>
    ⟨none, 0, 0, by rw [h], by simp [pickZ, h], by simp only [pickZ, h]; exact World.ownsRow_nil _ _ _ _, hb⟩
  have NO := Hid.mk no
  clear no
  cases hg : good zs with
  | false =>
    have HG := Hid.mk hg
    have HP : Hid (pickOk zs cols = false) := by simp [Hid, pickOk, hg]
    clear hg ha ha'
    go_enter Try.func79, Try.ntmps79
    go_wp2_with fail
    rw [← hW]
    refine (implGoodRow_any _ _ _ zs _ hz hn HA).mono ?_
    rintro e w1 ⟨rfl, hb1⟩
    rw [HG.out]
    have d2 := cell_later hb1 c2
    have e2 := frozen_later hb1 c2 f2
    clear hW
    go_wp2
    refine bodyPost_ret (v := .tuple #[.agg #[.slice none 0 0], .bool false]) (by simp [results, Try.results79, go_sem, d2]) rfl (NO.out HP.out _ ?_)
    exact (B.trans (hb1.mono B.size)).setCell (by simp) _
  | true =>
    have HG := Hid.mk hg
    by_cases h6 : n' ≤ 6
    · have HA' : At W a' cols := ha'.below B
      obtain ⟨i0, hi, hz0, hz1, hz2⟩ := info_parts Try.infoInt
      clear ha ha'
      go_enter Try.func79, Try.ntmps79
      go_wp2_with fail
      rw [← hW]
      refine (implGoodRow_any _ _ _ zs _ hz hn HA).mono ?_
      rintro e w1 ⟨rfl, hb1⟩
      rw [HG.out]
      have d1 := cell_later hb1 c1
      have d2 := cell_later hb1 c2
      have e2 := frozen_later hb1 c2 f2
      have A1 := HA.below hb1
      have A2 := HA'.below hb1
      have B1 := B.trans (hb1.mono B.size)
      have z1 : w.heap.size + 1 < w1.heap.size := World.block_lt_of_cell? _ _ d2
      clear hW hb1 c1 c2 f2 HA HA' B
      have V0 : RowVar (w1.alloc (.cells #[.slice none 0 0] 124)) w1.heap.size 124 (w1.heap.size + 1) 3 none 0 0 (pick zs (cols.take 0)) := RowVar.new rfl (by omega)
      go_wp2
      go_loopw [20] (fun i wr => ∃ (k : Nat) (r : Option Addr) (d : Nat), k ≤ n' ∧ i = .int .i64 k ∧ (∀ j, j < k → 0 ≤ cols.getD j 0 ∧ cols.getD j 0 < zs.length) ∧ RowVar wr w1.heap.size 124 (w1.heap.size + 1) 3 r k d (pick zs (cols.take k)) ∧ Below w1.heap.size w1 wr) (fun i _ => n' - (intOf i).toNat)
      case atStart => exact ⟨0, none, 0, Nat.zero_le _, rfl, fun j hj => by omega, V0, (Below.refl _ _).alloc (Nat.le_refl _) _⟩
      case round =>
        clear V0
        obtain ⟨k, r, d, hk, rfl, hall, hv, hbw⟩ := hrel
        have g1 := cell_later hbw d1
        have g2 := cell_later hbw d2
        have g3 := frozen_later hbw d2 e2
        have BW := B1.trans (hbw.mono B1.size)
        have z2 := hbw.size
        by_cases hlt : k < n'
        · obtain ⟨b', off', rfl, hb', hc'⟩ := (A2.below hbw).some (by omega)
          have hcx := hc' k (by omega)
          have HNo := Hid.mk (not_colsOk (cols := cols) (n := zs.length) k (by omega))
          have HS := Hid.mk (pick_succ zs cols k (by omega))
          have HAll := Hid.mk hall
          clear hc' hall
          by_cases hin : 0 ≤ cols.getD k 0 ∧ cols.getD k 0 < n
          · obtain ⟨hx0, hx1⟩ := hin
            have HX : Hid (0 ≤ cols.getD k 0 ∧ cols.getD k 0 < zs.length) := ⟨hx0, by omega⟩
            obtain ⟨j, hj⟩ := Int.eq_ofNat_of_zero_le hx0
            rw [hj] at hcx hx1 HS
            have HJ := Hid.mk hj
            have hjn : j < n := by omega
            obtain ⟨b, off, rfl, hb, hc⟩ := (A1.below hbw).some (by omega)
            have hcj := hc j (by omega)
            clear hc hj
            obtain ⟨y, hy⟩ : ∃ y, y = zs.getD ((j : Int)).toNat 0 := ⟨_, rfl⟩
            rw [← hy] at HS
            rw [show zs.getD j 0 = y by rw [hy]; rfl] at hcj
            clear hy
            have hcr := hv.cell
            have hfr := hv.frozen
            have zR : w1.heap.size < wr.heap.size := World.block_lt_of_cell? _ _ hcr
            have zb : b < wr.heap.size := World.block_lt_of_cell? _ _ hcj
            have HO := Hid.mk (hv.own.alloc (.cells #[.int .i64 y] 3)).drew
            have HN := Hid.mk (news_at wr #[.int .i64 y] 3)
            go_wp2
            go_region_law (refine step_append_lies _ rfl (.tmp 35) (.tmp 41) 22 rfl (w1.heap.size + 1) 3 i0 (.int .i64 0) 1 8 Try.underlying22 hi hz0 hz1 hz2 rfl (by decide) (.slice r k d) k _ (by simp [Act.eval]) HO.out ⟨wr.heap.size, 0, none⟩ 1 1 [.int .i64 y] (by simp [Act.eval]) rfl HN.out (by simp; rfl) (by decide) (by unfold maxLen; omega) (by omega) (by simp; omega) (wr.heap.size + 1) (by simp) ?_; intro g cap w2 hown1 hgrow' _ _; have hgrow := grown_undrew hgrow'; obtain ⟨t1, t2, hv1⟩ := hv.pushed hown1 hgrow)
            all_goals
              have HB := Hid.mk (hv.pushed_below (v := .slice (some ⟨g, 0, none⟩) (k + 1) cap) hgrow hbw (Nat.le_refl _))
              rw [← HS.out] at hv1
              have HV := Hid.mk hv1
              clear hv1 hown1 hgrow hgrow' hv hbw HO HN t1 t2 hcr hfr hcj hcx
              go_wp2
              go_roundw
              case rel =>
                refine ⟨k + 1, _, _, by omega, by go_num, fun j' hj' => ?_, HV.out, HB.out⟩
                by_cases e : j' = k
                · subst e; exact HX.out
                · exact HAll.out j' (by omega)
              case measure => simp [intOf]; omega
          · obtain ⟨x, hx⟩ : ∃ x, x = cols.getD k 0 := ⟨_, rfl⟩
            have HP : Hid (pickOk zs cols = false) := by
              have hno : colsOk cols zs.length = false := HNo.out (by omega)
              simp [Hid, pickOk, hno]
            rw [← hx] at hcx hin
            clear hx HS HNo HAll
            by_cases hneg : x < 0
            · go_wp2
              refine bodyPost_ret (v := .tuple #[.agg #[.slice none 0 0], .bool false]) (by simp [results, Try.results79, go_sem, g2]) rfl (NO.out HP.out _ ?_)
              exact BW.setCell (by simp) _
            · have hge : (n : Int) ≤ x := by omega
              go_wp2
              refine bodyPost_ret (v := .tuple #[.agg #[.slice none 0 0], .bool false]) (by simp [results, Try.results79, go_sem, g2]) rfl (NO.out HP.out _ ?_)
              exact BW.setCell (by simp) _
        · obtain rfl : k = n' := by omega
          have hok : pickOk zs cols = true := by
            have := colsOk_of (cols := cols) (n := zs.length) (by omega) (fun j hj => hall j (by omega))
            simp [pickOk, hg, this]
          have hpz : pick zs (cols.take k) = pickZ zs cols := by rw [← hz', List.take_length]; simp [pickZ, hok]
          rw [hpz] at hv
          have HP := Hid.mk hok
          have hcr := hv.cell
          clear hall hpz hok hg
          go_wp2
          refine bodyPost_ret (v := .tuple #[.agg #[.slice r k d], .bool true]) (by simp [results, Try.results79, go_sem, g2]) rfl ⟨r, k, d, by rw [HP.out], hv.1, ?_, ?_⟩
          · exact owns_mono (ownsRow_setCell_below hv.own (by simp; omega) _) (by omega)
          · exact BW.setCell (by simp) _
    · have HP : Hid (pickOk zs cols = false) := by simp [Hid, pickOk, colsOk_long (n := zs.length) (show 6 < cols.length by omega)]
      clear hg ha ha'
      go_enter Try.func79, Try.ntmps79
      go_wp2_with fail
      rw [← hW]
      refine (implGoodRow_any _ _ _ zs _ hz hn HA).mono ?_
      rintro e w1 ⟨rfl, hb1⟩
      rw [HG.out]
      have d2 := cell_later hb1 c2
      have e2 := frozen_later hb1 c2 f2
      clear hW
      go_wp2
      refine bodyPost_ret (v := .tuple #[.agg #[.slice none 0 0], .bool false]) (by simp [results, Try.results79, go_sem, d2]) rfl (NO.out HP.out _ ?_)
      exact (B.trans (hb1.mono B.size)).setCell (by simp) _

end Go.Proofs.Ythdcjelahoiepab

/- Plain functions: pairs of columns, rows that are joined. -/
namespace Go.Proofs.Ythdcjelahoiepab

def pairs2 (ps : List (List Int)) : Bool := decide (ps.length ≤ 6) && ps.all fun p => decide (p.length = 2)
def side (ps : List (List Int)) (s : Nat) : List Int := ps.map fun p => p.getD s 0
def pairIn (na nb : Nat) (p : List Int) : Bool := decide (p.length = 2) && colIn na (p.getD 0 0) && colIn nb (p.getD 1 0)
def pairsOk (ps : List (List Int)) (na nb : Nat) : Bool := decide (ps.length ≤ 6) && ps.all (pairIn na nb)
def restTo (ys cols : List Int) (k : Nat) : List Int := ((List.range k).filter fun (j : Nat) => !cols.contains (j : Int)).map fun (j : Nat) => ys.getD j 0
def joinZ (xs ys cols : List Int) : List Int := xs ++ restTo ys cols ys.length
def joinOk (xs ys : List Int) (ps : List (List Int)) : Bool :=
  good xs && good ys && pairsOk ps xs.length ys.length && decide (pick xs (side ps 0) = pick ys (side ps 1)) && decide ((joinZ xs ys (side ps 1)).length ≤ 6)
def joinAns (xs ys : List Int) (ps : List (List Int)) : List Int := if joinOk xs ys ps then joinZ xs ys (side ps 1) else []

theorem side_length (ps : List (List Int)) (s : Nat) : (side ps s).length = ps.length := by simp [side]
theorem side_take (ps : List (List Int)) (s k : Nat) (h : k < ps.length) : side (ps.take (k + 1)) s = side (ps.take k) s ++ [(ps.getD k []).getD s 0] := by
  unfold side
  rw [List.take_succ_eq_append_getElem h, List.map_append]
  simp [List.getD, h]
theorem side_getD (ps : List (List Int)) (s k : Nat) (h : k < ps.length) : (side ps s).getD k 0 = (ps.getD k []).getD s 0 := by
  simp [side, List.getD, h]
theorem restTo_skip (ys cols : List Int) (k : Nat) (h : cols.contains (k : Int) = true) : restTo ys cols (k + 1) = restTo ys cols k := by
  simp only [restTo, List.range_succ, List.filter_append, List.filter_cons, List.filter_nil, h, Bool.not_true, Bool.false_eq_true, if_false, List.append_nil]
theorem restTo_take (ys cols : List Int) (k : Nat) (h : cols.contains (k : Int) = false) : restTo ys cols (k + 1) = restTo ys cols k ++ [ys.getD k 0] := by
  simp only [restTo, List.range_succ, List.filter_append, List.map_append, List.filter_cons, List.filter_nil, h, Bool.not_false, if_true, List.map_cons, List.map_nil]
theorem restTo_length (ys cols : List Int) (k : Nat) : (restTo ys cols k).length ≤ k := by
  simp only [restTo, List.length_map]
  have := List.length_filter_le (fun j : Nat => !cols.contains (j : Int)) (List.range k)
  simpa using this

/-- The joined row while it is made. -/
def joinTo (xs ys cols : List Int) (k : Nat) : List Int := xs ++ restTo ys cols k
theorem joinTo_skip (xs ys cols : List Int) (k : Nat) (h : cols.contains (k : Int) = true) : joinTo xs ys cols (k + 1) = joinTo xs ys cols k := by rw [joinTo, joinTo, restTo_skip ys cols k h]
theorem joinTo_take (xs ys cols : List Int) (k : Nat) (h : cols.contains (k : Int) = false) : joinTo xs ys cols (k + 1) = joinTo xs ys cols k ++ [ys.getD k 0] := by rw [joinTo, joinTo, restTo_take ys cols k h, List.append_assoc]
theorem joinTo_length (xs ys cols : List Int) (k : Nat) : (joinTo xs ys cols k).length ≤ xs.length + k := by have := restTo_length ys cols k; simp [joinTo]; omega

theorem pairs2_at {ps : List (List Int)} (h : pairs2 ps = true) (k : Nat) (hk : k < ps.length) : (ps.getD k []).length = 2 := by
  simp only [pairs2, Bool.and_eq_true, decide_eq_true_eq, List.all_eq_true] at h
  have := h.2 ps[k] (List.getElem_mem hk)
  simpa [List.getD, hk] using this
theorem pairs2_len {ps : List (List Int)} (h : pairs2 ps = true) : ps.length ≤ 6 := by simp only [pairs2, Bool.and_eq_true, decide_eq_true_eq] at h; exact h.1
theorem pairs2_of {ps : List (List Int)} (hl : ps.length ≤ 6) (h : ∀ k, k < ps.length → (ps.getD k []).length = 2) : pairs2 ps = true := by
  simp only [pairs2, Bool.and_eq_true, decide_eq_true_eq, List.all_eq_true]
  refine ⟨hl, fun x hx => ?_⟩
  obtain ⟨k, hk, rfl⟩ := List.getElem_of_mem hx
  simpa [List.getD, hk] using h k hk
theorem pairs2_long {ps : List (List Int)} (h : 6 < ps.length) : pairs2 ps = false := by simp [pairs2]; omega
theorem not_pairs2 {ps : List (List Int)} (k : Nat) (hk : k < ps.length) (h : (ps.getD k []).length ≠ 2) : pairs2 ps = false := by
  cases hg : pairs2 ps with
  | false => rfl
  | true => exact absurd (pairs2_at hg k hk) h

theorem pairsOk_at {ps : List (List Int)} {na nb : Nat} (h : pairsOk ps na nb = true) (k : Nat) (hk : k < ps.length) :
    (ps.getD k []).length = 2 ∧ (0 ≤ (ps.getD k []).getD 0 0 ∧ (ps.getD k []).getD 0 0 < na) ∧ (0 ≤ (ps.getD k []).getD 1 0 ∧ (ps.getD k []).getD 1 0 < nb) := by
  simp only [pairsOk, pairIn, colIn, Bool.and_eq_true, decide_eq_true_eq, List.all_eq_true] at h
  have := h.2 ps[k] (List.getElem_mem hk)
  rw [show ps.getD k [] = ps[k] by simp [List.getD, hk]]
  exact ⟨this.1.1, this.1.2, this.2⟩
theorem pairsOk_len {ps : List (List Int)} {na nb : Nat} (h : pairsOk ps na nb = true) : ps.length ≤ 6 := by simp only [pairsOk, Bool.and_eq_true, decide_eq_true_eq] at h; exact h.1
theorem pairsOk_of {ps : List (List Int)} {na nb : Nat} (hl : ps.length ≤ 6) (h : ∀ k, k < ps.length → (ps.getD k []).length = 2 ∧ (0 ≤ (ps.getD k []).getD 0 0 ∧ (ps.getD k []).getD 0 0 < na) ∧ (0 ≤ (ps.getD k []).getD 1 0 ∧ (ps.getD k []).getD 1 0 < nb)) : pairsOk ps na nb = true := by
  simp only [pairsOk, pairIn, colIn, Bool.and_eq_true, decide_eq_true_eq, List.all_eq_true]
  refine ⟨hl, fun x hx => ?_⟩
  obtain ⟨k, hk, rfl⟩ := List.getElem_of_mem hx
  have := h k hk
  rw [show ps.getD k [] = ps[k] by simp [List.getD, hk]] at this
  exact ⟨⟨this.1, this.2.1⟩, this.2.2⟩
theorem pairsOk_long {ps : List (List Int)} {na nb : Nat} (h : 6 < ps.length) : pairsOk ps na nb = false := by simp [pairsOk]; omega
theorem not_pairsOk {ps : List (List Int)} {na nb : Nat} (k : Nat) (hk : k < ps.length) (h : ¬ ((ps.getD k []).length = 2 ∧ (0 ≤ (ps.getD k []).getD 0 0 ∧ (ps.getD k []).getD 0 0 < na) ∧ (0 ≤ (ps.getD k []).getD 1 0 ∧ (ps.getD k []).getD 1 0 < nb))) : pairsOk ps na nb = false := by
  cases hg : pairsOk ps na nb with
  | false => rfl
  | true => exact absurd (pairsOk_at hg k hk) h

theorem pairsOk_split (ps : List (List Int)) (na nb : Nat) : pairsOk ps na nb = (pairs2 ps && colsOk (side ps 0) na && colsOk (side ps 1) nb) := by
  rw [Bool.eq_iff_iff]
  simp only [Bool.and_eq_true]
  constructor
  · intro h
    have hl := pairsOk_len h
    refine ⟨⟨pairs2_of hl (fun k hk => (pairsOk_at h k hk).1), colsOk_of (by rw [side_length]; exact hl) (fun j hj => ?_)⟩, colsOk_of (by rw [side_length]; exact hl) (fun j hj => ?_)⟩
    · rw [side_length] at hj; rw [side_getD ps 0 j hj]; exact (pairsOk_at h j hj).2.1
    · rw [side_length] at hj; rw [side_getD ps 1 j hj]; exact (pairsOk_at h j hj).2.2
  · rintro ⟨⟨h1, h2⟩, h3⟩
    refine pairsOk_of (pairs2_len h1) (fun k hk => ⟨pairs2_at h1 k hk, ?_, ?_⟩)
    · have := colsOk_at h2 k (by rw [side_length]; exact hk); rwa [side_getD ps 0 k hk] at this
    · have := colsOk_at h3 k (by rw [side_length]; exact hk); rwa [side_getD ps 1 k hk] at this

theorem raised_dec {xs ys : List Int} (hl : xs.length = ys.length) : decide (raised xs = raised ys) = decide (xs = ys) := by
  rw [Bool.eq_iff_iff, decide_eq_true_eq, decide_eq_true_eq]
  constructor
  · intro h
    unfold raised at h
    have h2 := (List.append_inj h (by simpa using hl)).1
    apply List.ext_getElem hl
    intro i h1 h3
    have := congrArg (fun l => l.getD i 0) h2
    simp [List.getD, h1, h3] at this
    exact this
  · rintro rfl; rfl

theorem pick_good {zs cols : List Int} (h : pickOk zs cols = true) : ∀ k, k < (pick zs cols).length → -100000 ≤ (pick zs cols).getD k 0 ∧ (pick zs cols).getD k 0 ≤ 100000 := by
  intro k hk
  simp only [pickOk, Bool.and_eq_true] at h
  have hk' : k < cols.length := by simpa [pick] using hk
  have hc := colsOk_at h.2 k hk'
  rw [show (pick zs cols).getD k 0 = zs.getD (cols.getD k 0).toNat 0 by simp [pick, List.getD, hk']]
  exact good_cell h.1 _ (by omega)

theorem restTo_mem {ys cols : List Int} {k : Nat} (hk : k ≤ ys.length) : ∀ z ∈ restTo ys cols k, z ∈ ys := by
  intro z hz
  simp only [restTo, List.mem_map, List.mem_filter, List.mem_range] at hz
  obtain ⟨j, ⟨hj, _⟩, rfl⟩ := hz
  rw [show ys.getD j 0 = ys[j]'(by omega) by simp [List.getD, show j < ys.length by omega]]
  exact List.getElem_mem _

theorem good_joinZ {xs ys cols : List Int} (hx : good xs = true) (hy : good ys = true) : good (joinZ xs ys cols) = decide ((joinZ xs ys cols).length ≤ 6) := by
  have hall : (joinZ xs ys cols).all inb = true := by
    rw [List.all_eq_true]
    intro z hz
    rcases List.mem_append.1 hz with h | h
    · have := good_mem hx z h; simp [inb, this]
    · have := good_mem hy z (restTo_mem (Nat.le_refl _) z h); simp [inb, this]
  simp [good, hall]

end Go.Proofs.Ythdcjelahoiepab

/- Contracts of impl.arePairs, impl.sideOf, spec.l1Pairs. -/
namespace Go.Proofs.Ythdcjelahoiepab
open Go.RowKit

set_option maxHeartbeats 1000000 in
theorem arePairs_any (a : Option Addr) (n c : Nat) (ps : List (List Int)) (w : World) (hz : ps.length = n) (hn : n ≤ 9223372036854775807) (ha : AtS w a ps) :
    Calls Try.prog 77 #[.slice a n c] w fun e w' => e = .returned (.bool (pairs2 ps)) ∧ w' = w := by
  by_cases h6 : n ≤ 6
  · by_cases h0 : n = 0
    · subst h0
      obtain rfl := List.eq_nil_of_length_eq_zero hz
      go_enter Try.func77, Try.ntmps77
      go_wp2
      refine wp_loop_rounds 1 ?_
      rw [rounds_succ]
      go_wp2
      go_ret
      exact ⟨ret_bool (by simp [pairs2]), rfl⟩
    · obtain ⟨b, off, rfl, hc⟩ := ha.some (by omega)
      clear ha
      go_enter Try.func77, Try.ntmps77
      go_wp2
      go_loop [10] (fun i => ∃ k : Nat, k ≤ n ∧ i = .int .i64 k ∧ ∀ j, j < k → (ps.getD j []).length = 2) (fun i => n - (intOf i).toNat)
      case atStart => exact ⟨0, Nat.zero_le _, rfl, fun j hj => by omega⟩
      case round =>
        obtain ⟨k, hk, rfl, hall⟩ := hrel
        by_cases hlt : k < n
        · obtain ⟨q, d, hcx, hm, _⟩ := hc k (by omega)
          have HN := Hid.mk (not_pairs2 (ps := ps) k (by omega))
          have HA := Hid.mk hall
          obtain ⟨m, hmm⟩ : ∃ m, (ps.getD k []).length = m := ⟨_, rfl⟩
          rw [hmm] at hcx HN hm
          have HM := Hid.mk hmm
          clear hmm hc hall
          by_cases h2 : m = 2
          · have h2' : ((m : Int) != 2) = false := by simp; omega
            have H2 := Hid.mk h2
            clear h2
            go_wp2
            go_round
            case rel =>
              refine ⟨k + 1, by omega, by go_num, fun j hj => ?_⟩
              by_cases e : j = k
              · subst e; exact HM.out.trans H2.out
              · exact HA.out j (by omega)
            case measure => simp [intOf]; omega
          · have h2' : ((m : Int) != 2) = true := by simp; omega
            go_wp2
            go_ret
            exact ⟨ret_bool (HN.out h2).symm, rfl⟩
        · have HP := Hid.mk (pairs2_of (ps := ps) (by omega) (fun k hk => hall k (by omega)))
          go_wp2
          go_ret
          exact ⟨ret_bool HP.out.symm, rfl⟩
  · go_enter Try.func77, Try.ntmps77
    go_wp2
    go_ret
    exact ⟨ret_bool (pairs2_long (by omega)).symm, rfl⟩

set_option maxHeartbeats 2000000 in
theorem sideOf_any (a : Option Addr) (n c : Nat) (ps : List (List Int)) (sd : Nat) (w : World) (hz : ps.length = n) (hp : pairs2 ps = true) (hsd : sd ≤ 1) (ha : AtS w a ps) :
    Calls Try.prog 78 #[.slice a n c, .int .i64 sd] w fun e w' => ∃ r d, e = .returned (.slice r n d) ∧ w'.ownsRow w.heap.size 3 1 (.slice r n d) n ((side ps sd).map (.int .i64)) ∧ Below w.heap.size w w' := by
  have h6 := pairs2_len hp
  have h2 := fun k hk => pairs2_at hp k hk
  obtain ⟨i0, hi, hz0, hz1, hz2⟩ := info_parts Try.infoInt
  clear hp
  go_enter Try.func78, Try.ntmps78
  go_wp2
  go_loopw [5, 10] (fun v i wr => ∃ (k : Nat) (r : Option Addr) (d : Nat), k ≤ n ∧ i = .int .i64 k ∧ v = .slice r k d ∧ wr.ownsRow w.heap.size 3 1 (.slice r k d) k ((side (ps.take k) sd).map (.int .i64)) ∧ Below w.heap.size w wr) (fun _ i _ => n - (intOf i).toNat)
  case atStart => exact ⟨0, none, 0, Nat.zero_le _, rfl, rfl, World.ownsRow_nil _ _ _ _, Below.refl _ _⟩
  case round =>
    obtain ⟨k, r, d, hk, rfl, rfl, hown, hbw⟩ := hrel
    by_cases hlt : k < n
    · obtain ⟨b, off, rfl, hc⟩ := (ha.below hbw).some (by omega)
      obtain ⟨q, d', hcx, _, hat⟩ := hc k (by omega)
      have HS := Hid.mk (side_take ps sd k (by omega))
      have hl2 := h2 k (by omega)
      obtain ⟨b', off', rfl, hb', hc'⟩ := hat.some (by omega)
      have hcy := hc' sd (by omega)
      rw [hl2] at hcx
      obtain ⟨y, hy⟩ : ∃ y, y = (ps.getD k []).getD sd 0 := ⟨_, rfl⟩
      rw [← hy] at hcy HS
      have hsi : (sd : Int) < 2 := by omega
      have z2 := hbw.size
      clear hc hc' hy hl2 h2
      go_wp2_with (at_builtin; refine wpList_append_lies _ rfl (.tmp 14) (.tmp 19) 22 rfl w.heap.size 3 i0 (.int .i64 0) 1 8 Try.underlying22 hi hz0 hz1 hz2 rfl (by decide) _ _ _ rfl (hown.alloc _) ⟨wr.heap.size, 0, none⟩ 1 1 [.int .i64 y] rfl rfl (news_at wr _ _) (by simp; rfl) (by decide) (by unfold maxLen; omega) (by omega) (by simp; omega) (wr.heap.size + 1) (by simp) ?_)
      intro g cap w1 hown1 hgrow _ _
      have HB := Hid.mk ((hbw.alloc z2 _).grown hgrow (by simp; omega) (fun j hj => (hown.lt j hj).1))
      have HO : Hid (w1.ownsRow w.heap.size 3 1 (.slice (some ⟨g, 0, none⟩) (k + 1) cap) (k + 1) ((side (ps.take (k + 1)) sd).map (.int .i64))) := by
        rw [HS.out, List.map_append]; exact hown1
      clear hown1 hgrow hown hcx hcy
      go_wp2
      go_roundw
      case rel => exact ⟨k + 1, _, _, by omega, by go_num, rfl, HO.out, HB.out⟩
      case measure => simp [intOf]; omega
    · obtain rfl : k = n := by omega
      rw [← hz, List.take_length, hz] at hown
      go_wp2
      go_ret
      exact ⟨r, d, rfl, hown, hbw⟩

set_option maxHeartbeats 4000000 in
theorem l1Pairs_any (a : Option Addr) (n c : Nat) (ps : List (List Int)) (na nb : Nat) (w : World) (hz : ps.length = n) (hn : n ≤ 9223372036854775807) (ha : AtS w a ps) :
    Calls Try.prog 48 #[.slice a n c, .int .i64 na, .int .i64 nb] w fun e w' => e = .returned (.bool (pairsOk ps na nb)) ∧ w' = w := by
  by_cases h0 : n = 0
  · subst h0
    obtain rfl := List.eq_nil_of_length_eq_zero hz
    go_enter Try.func48, Try.ntmps48
    go_wp2
    refine wp_loop_rounds 1 ?_
    rw [rounds_succ]
    go_wp2
    go_ret
    exact ⟨ret_bool (by simp [pairsOk]), rfl⟩
  · obtain ⟨b, off, rfl, hc⟩ := ha.some (by omega)
    clear ha
    go_enter Try.func48, Try.ntmps48
    go_wp2
    go_loop [11] (fun i => ∃ k : Nat, k ≤ n ∧ i = .int .i64 k ∧ ∀ j, j < k → (ps.getD j []).length = 2 ∧ (0 ≤ (ps.getD j []).getD 0 0 ∧ (ps.getD j []).getD 0 0 < na) ∧ (0 ≤ (ps.getD j []).getD 1 0 ∧ (ps.getD j []).getD 1 0 < nb)) (fun i => n - (intOf i).toNat)
    case atStart => exact ⟨0, Nat.zero_le _, rfl, fun j hj => by omega⟩
    case round =>
      obtain ⟨k, hk, rfl, hall⟩ := hrel
      by_cases hlt : k < n
      · obtain ⟨q, d, hcx, hm, hat⟩ := hc k (by omega)
        have HN := Hid.mk (not_pairsOk (ps := ps) (na := na) (nb := nb) k (by omega))
        have HA := Hid.mk hall
        have HS : Hid ((ps.getD k []).length = 2 → (0 ≤ (ps.getD k []).getD 0 0 ∧ (ps.getD k []).getD 0 0 < na) → (0 ≤ (ps.getD k []).getD 1 0 ∧ (ps.getD k []).getD 1 0 < nb) → ∀ j, j < k + 1 → (ps.getD j []).length = 2 ∧ (0 ≤ (ps.getD j []).getD 0 0 ∧ (ps.getD j []).getD 0 0 < na) ∧ (0 ≤ (ps.getD j []).getD 1 0 ∧ (ps.getD j []).getD 1 0 < nb)) := fun x1 x2 x3 j hj => by
          by_cases e : j = k
          · subst e; exact ⟨x1, x2, x3⟩
          · exact HA.out j (by omega)
        clear hc hall HA
        generalize ps.getD k [] = ys at *
        obtain ⟨m, hmm⟩ : ∃ m, ys.length = m := ⟨_, rfl⟩
        rw [hmm] at hcx HN HS hm
        by_cases h2 : m = 2
        · subst h2
          obtain ⟨b', off', rfl, hb', hc'⟩ := hat.some (by omega)
          have hx := hc' 0 (by omega)
          have hy := hc' 1 (by omega)
          rw [Nat.add_zero] at hx
          clear hmm hc' hat
          generalize ys.getD 0 0 = x at *
          generalize ys.getD 1 0 = y at *
          by_cases x0 : x < 0
          · go_wp2
            go_ret
            exact ⟨ret_bool (HN.out (by omega)).symm, rfl⟩
          by_cases x1 : (na : Int) ≤ x
          · go_wp2
            go_ret
            exact ⟨ret_bool (HN.out (by omega)).symm, rfl⟩
          by_cases y0 : y < 0
          · go_wp2
            go_ret
            exact ⟨ret_bool (HN.out (by omega)).symm, rfl⟩
          by_cases y1 : (nb : Int) ≤ y
          · go_wp2
            go_ret
            exact ⟨ret_bool (HN.out (by omega)).symm, rfl⟩
          · go_wp2
            go_round
            case rel => exact ⟨k + 1, by omega, by go_num, HS.out (by trivial) (by omega) (by omega)⟩
            case measure => simp [intOf]; omega
        · have h2' : ((m : Int) != 2) = true := by simp; omega
          clear hat hmm
          go_wp2
          go_ret
          exact ⟨ret_bool (HN.out (by omega)).symm, rfl⟩
      · by_cases h6 : n ≤ 6
        · have HG := Hid.mk (pairsOk_of (ps := ps) (na := na) (nb := nb) (by omega) (fun j hj => hall j (by omega)))
          clear hall hc
          go_wp2
          go_ret
          exact ⟨ret_bool (by rw [HG.out]; simp; omega), rfl⟩
        · have HG := Hid.mk (pairsOk_long (ps := ps) (na := na) (nb := nb) (by omega))
          clear hall hc
          go_wp2
          go_ret
          exact ⟨ret_bool (by rw [HG.out]; simp; omega), rfl⟩

end Go.Proofs.Ythdcjelahoiepab
