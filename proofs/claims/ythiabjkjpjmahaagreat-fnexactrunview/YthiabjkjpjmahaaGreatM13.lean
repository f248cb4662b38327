/- Several texts of one proof, in build order: Pick, PlainJoin, Pairs, JoinC. -/
import Derived.Test.YthiabjkjpjmahaaGreatM6
import Derived.Test.YthiabjkjpjmahaaGreatM12
import Derived.Deep.AppendLies
import Derived.Deep.RegionLaw
import Derived.Test.YthiabjkjpjmahaaGreatM0
import Derived.Test.YthiabjkjpjmahaaGreatM3

/- Contracts of impl.PickCells, spec.l1Columns, spec.l1Pick, spec.PickCells. -/
namespace Go.Proofs.YthiabjkjpjmahaaGreat
open Go.RowKit

set_option maxRecDepth 100000 in
set_option maxHeartbeats 4000000 in
theorem implPickCells (a a' : Option Addr) (n n' c c' : Nat) (zs cols : List Int) (w : World) (hz : zs.length = n) (hz' : cols.length = n') (hn : n ≤ 9223372036854775807) (hn' : n' ≤ 9223372036854775807) (ha : At w a zs) (ha' : At w a' cols) :
    Calls Tryz.prog 145 #[.agg #[.slice a n c], .slice a' n' c'] w fun e w' => ∃ r m d, e = .returned (.tuple #[.agg #[.slice r m d], .bool (pickOk zs cols)]) ∧
      (pickZ zs cols).length = m ∧ w'.ownsRow w.heap.size 3 1 (.slice r m d) m ((pickZ zs cols).map (.int .i64)) ∧ Below w.heap.size w w' := by
  obtain ⟨W, hW⟩ : ∃ W, W = (w.alloc (.cells #[.slice a n c] 80)).alloc (.cells #[.slice none 0 0] 80) := ⟨_, rfl⟩
  have B : Below w.heap.size w W := by rw [hW]; exact ((Below.refl _ _).alloc (Nat.le_refl _) _).alloc (by simp) _
  have HA : At W a zs := ha.below B
  have c1 : W.cell? ⟨w.heap.size, 0, none⟩ = some (.slice a n c) := by rw [hW]; simp
  have c2 : W.cell? ⟨w.heap.size + 1, 0, none⟩ = some (.slice none 0 0) := by rw [hW]; simp
  have f2 : W.frozen? ⟨w.heap.size + 1, 0, none⟩ = false := by rw [hW]; simp
  have no : pickOk zs cols = false → ∀ w2, Below w.heap.size w w2 → ∃ r m d, Ending.returned (.tuple #[.agg #[.slice none 0 0], .bool false]) = .returned (.tuple #[.agg #[.slice r m d], .bool (pickOk zs cols)]) ∧
      (pickZ zs cols).length = m ∧ w2.ownsRow w.heap.size 3 1 (.slice r m d) m ((pickZ zs cols).map (.int .i64)) ∧ Below w.heap.size w w2 := fun h w2 hb =>
    ⟨none, 0, 0, by rw [h], by simp [pickZ, h], by simp only [pickZ, h]; exact World.ownsRow_nil _ _ _ _, hb⟩
  have NO := Hid.mk no
  clear no
  cases hg : good zs with
  | false =>
    have HG := Hid.mk hg
    have HP : Hid (pickOk zs cols = false) := by simp [Hid, pickOk, hg]
    clear hg ha ha'
    go_enter Tryz.func145, Tryz.ntmps145
    go_wp2_with fail
    rw [← hW]
    refine (implGoodRow_any _ _ _ zs _ hz hn HA).mono ?_
    rintro e w1 ⟨rfl, hb1⟩
    rw [HG.out]
    have d2 := cell_later hb1 c2
    have e2 := frozen_later hb1 c2 f2
    clear hW
    go_wp2
    refine bodyPost_ret (v := .tuple #[.agg #[.slice none 0 0], .bool false]) (by simp [results, Tryz.results145, go_sem, d2]) rfl (NO.out HP.out _ ?_)
    exact (B.trans (hb1.mono B.size)).setCell (by simp) _
  | true =>
    have HG := Hid.mk hg
    by_cases h6 : n' ≤ 6
    · have HA' : At W a' cols := ha'.below B
      obtain ⟨i0, hi, hz0, hz1, hz2⟩ := info_parts Tryz.infoInt
      clear ha ha'
      go_enter Tryz.func145, Tryz.ntmps145
      go_wp2_with fail
      rw [← hW]
      refine (implGoodRow_any _ _ _ zs _ hz hn HA).mono ?_
      rintro e w1 ⟨rfl, hb1⟩
      rw [HG.out]
      have d1 := cell_later hb1 c1
      have d2 := cell_later hb1 c2
      have e2 := frozen_later hb1 c2 f2
      have A1 := HA.below hb1
      have A2 := HA'.below hb1
      have B1 := B.trans (hb1.mono B.size)
      have z1 : w.heap.size + 1 < w1.heap.size := World.block_lt_of_cell? _ _ d2
      clear hW hb1 c1 c2 f2 HA HA' B
      have V0 : RowVar (w1.alloc (.cells #[.slice none 0 0] 80)) w1.heap.size 80 (w1.heap.size + 1) 3 none 0 0 (pick zs (cols.take 0)) := RowVar.new rfl (by omega)
      go_wp2
      go_loopw [20] (fun i wr => ∃ (k : Nat) (r : Option Addr) (d : Nat), k ≤ n' ∧ i = .int .i64 k ∧ (∀ j, j < k → 0 ≤ cols.getD j 0 ∧ cols.getD j 0 < zs.length) ∧ RowVar wr w1.heap.size 80 (w1.heap.size + 1) 3 r k d (pick zs (cols.take k)) ∧ Below w1.heap.size w1 wr) (fun i _ => n' - (intOf i).toNat)
      case atStart => exact ⟨0, none, 0, Nat.zero_le _, rfl, fun j hj => by omega, V0, (Below.refl _ _).alloc (Nat.le_refl _) _⟩
      case round =>
        clear V0
        obtain ⟨k, r, d, hk, rfl, hall, hv, hbw⟩ := hrel
        have g1 := cell_later hbw d1
        have g2 := cell_later hbw d2
        have g3 := frozen_later hbw d2 e2
        have BW := B1.trans (hbw.mono B1.size)
        have z2 := hbw.size
        by_cases hlt : k < n'
        · obtain ⟨b', off', rfl, hb', hc'⟩ := (A2.below hbw).some (by omega)
          have hcx := hc' k (by omega)
          have HNo := Hid.mk (not_colsOk (cols := cols) (n := zs.length) k (by omega))
          have HS := Hid.mk (pick_succ zs cols k (by omega))
          have HAll := Hid.mk hall
          clear hc' hall
          by_cases hin : 0 ≤ cols.getD k 0 ∧ cols.getD k 0 < n
          · obtain ⟨hx0, hx1⟩ := hin
            have HX : Hid (0 ≤ cols.getD k 0 ∧ cols.getD k 0 < zs.length) := ⟨hx0, by omega⟩
            obtain ⟨j, hj⟩ := Int.eq_ofNat_of_zero_le hx0
            rw [hj] at hcx hx1 HS
            have HJ := Hid.mk hj
            have hjn : j < n := by omega
            obtain ⟨b, off, rfl, hb, hc⟩ := (A1.below hbw).some (by omega)
            have hcj := hc j (by omega)
            clear hc hj
            obtain ⟨y, hy⟩ : ∃ y, y = zs.getD ((j : Int)).toNat 0 := ⟨_, rfl⟩
            rw [← hy] at HS
            rw [show zs.getD j 0 = y by rw [hy]; rfl] at hcj
            clear hy
            have hcr := hv.cell
            have hfr := hv.frozen
            have zR : w1.heap.size < wr.heap.size := World.block_lt_of_cell? _ _ hcr
            have zb : b < wr.heap.size := World.block_lt_of_cell? _ _ hcj
            have HO := Hid.mk (hv.own.alloc (.cells #[.int .i64 y] 3)).drew
            have HN := Hid.mk (news_at wr #[.int .i64 y] 3)
            go_wp2
            go_region_law (refine step_append_lies _ rfl (.tmp 35) (.tmp 41) 23 rfl (w1.heap.size + 1) 3 i0 (.int .i64 0) 1 8 Tryz.underlying23 hi hz0 hz1 hz2 rfl (by decide) (.slice r k d) k _ (by simp [Act.eval]) HO.out ⟨wr.heap.size, 0, none⟩ 1 1 [.int .i64 y] (by simp [Act.eval]) rfl HN.out (by simp; rfl) (by decide) (by unfold maxLen; omega) (by omega) (by simp; omega) (wr.heap.size + 1) (by simp) ?_; intro g cap w2 hown1 hgrow' _ _; have hgrow := grown_undrew hgrow'; obtain ⟨t1, t2, hv1⟩ := hv.pushed hown1 hgrow)
            all_goals
              have HB := Hid.mk (hv.pushed_below (v := .slice (some ⟨g, 0, none⟩) (k + 1) cap) hgrow hbw (Nat.le_refl _))
              rw [← HS.out] at hv1
              have HV := Hid.mk hv1
              clear hv1 hown1 hgrow hgrow' hv hbw HO HN t1 t2 hcr hfr hcj hcx
              go_wp2
              go_roundw
              case rel =>
                refine ⟨k + 1, _, _, by omega, by go_num, fun j' hj' => ?_, HV.out, HB.out⟩
                by_cases e : j' = k
                · subst e; exact HX.out
                · exact HAll.out j' (by omega)
              case measure => simp [intOf]; omega
          · obtain ⟨x, hx⟩ : ∃ x, x = cols.getD k 0 := ⟨_, rfl⟩
            have HP : Hid (pickOk zs cols = false) := by
              have hno : colsOk cols zs.length = false := HNo.out (by omega)
              simp [Hid, pickOk, hno]
            rw [← hx] at hcx hin
            clear hx HS HNo HAll
            by_cases hneg : x < 0
            · go_wp2
              refine bodyPost_ret (v := .tuple #[.agg #[.slice none 0 0], .bool false]) (by simp [results, Tryz.results145, go_sem, g2]) rfl (NO.out HP.out _ ?_)
              exact BW.setCell (by simp) _
            · have hge : (n : Int) ≤ x := by omega
              go_wp2
              refine bodyPost_ret (v := .tuple #[.agg #[.slice none 0 0], .bool false]) (by simp [results, Tryz.results145, go_sem, g2]) rfl (NO.out HP.out _ ?_)
              exact BW.setCell (by simp) _
        · obtain rfl : k = n' := by omega
          have hok : pickOk zs cols = true := by
            have := colsOk_of (cols := cols) (n := zs.length) (by omega) (fun j hj => hall j (by omega))
            simp [pickOk, hg, this]
          have hpz : pick zs (cols.take k) = pickZ zs cols := by rw [← hz', List.take_length]; simp [pickZ, hok]
          rw [hpz] at hv
          have HP := Hid.mk hok
          have hcr := hv.cell
          clear hall hpz hok hg
          go_wp2
          refine bodyPost_ret (v := .tuple #[.agg #[.slice r k d], .bool true]) (by simp [results, Tryz.results145, go_sem, g2]) rfl ⟨r, k, d, by rw [HP.out], hv.1, ?_, ?_⟩
          · exact owns_mono (ownsRow_setCell_below hv.own (by simp; omega) _) (by omega)
          · exact BW.setCell (by simp) _
    · have HP : Hid (pickOk zs cols = false) := by simp [Hid, pickOk, colsOk_long (n := zs.length) (show 6 < cols.length by omega)]
      clear hg ha ha'
      go_enter Tryz.func145, Tryz.ntmps145
      go_wp2_with fail
      rw [← hW]
      refine (implGoodRow_any _ _ _ zs _ hz hn HA).mono ?_
      rintro e w1 ⟨rfl, hb1⟩
      rw [HG.out]
      have d2 := cell_later hb1 c2
      have e2 := frozen_later hb1 c2 f2
      clear hW
      go_wp2
      refine bodyPost_ret (v := .tuple #[.agg #[.slice none 0 0], .bool false]) (by simp [results, Tryz.results145, go_sem, d2]) rfl (NO.out HP.out _ ?_)
      exact (B.trans (hb1.mono B.size)).setCell (by simp) _

end Go.Proofs.YthiabjkjpjmahaaGreat

/- Plain functions: pairs of columns, rows that are joined. -/
namespace Go.Proofs.YthiabjkjpjmahaaGreat

def pairs2 (ps : List (List Int)) : Bool := decide (ps.length ≤ 6) && ps.all fun p => decide (p.length = 2)
def side (ps : List (List Int)) (s : Nat) : List Int := ps.map fun p => p.getD s 0
def pairIn (na nb : Nat) (p : List Int) : Bool := decide (p.length = 2) && colIn na (p.getD 0 0) && colIn nb (p.getD 1 0)
def pairsOk (ps : List (List Int)) (na nb : Nat) : Bool := decide (ps.length ≤ 6) && ps.all (pairIn na nb)
def restTo (ys cols : List Int) (k : Nat) : List Int := ((List.range k).filter fun (j : Nat) => !cols.contains (j : Int)).map fun (j : Nat) => ys.getD j 0
def joinZ (xs ys cols : List Int) : List Int := xs ++ restTo ys cols ys.length
def joinOk (xs ys : List Int) (ps : List (List Int)) : Bool :=
  good xs && good ys && pairsOk ps xs.length ys.length && decide (pick xs (side ps 0) = pick ys (side ps 1)) && decide ((joinZ xs ys (side ps 1)).length ≤ 6)
def joinAns (xs ys : List Int) (ps : List (List Int)) : List Int := if joinOk xs ys ps then joinZ xs ys (side ps 1) else []

theorem side_length (ps : List (List Int)) (s : Nat) : (side ps s).length = ps.length := by simp [side]
theorem side_take (ps : List (List Int)) (s k : Nat) (h : k < ps.length) : side (ps.take (k + 1)) s = side (ps.take k) s ++ [(ps.getD k []).getD s 0] := by
  unfold side
  rw [List.take_succ_eq_append_getElem h, List.map_append]
  simp [List.getD, h]
theorem side_getD (ps : List (List Int)) (s k : Nat) (h : k < ps.length) : (side ps s).getD k 0 = (ps.getD k []).getD s 0 := by
  simp [side, List.getD, h]
theorem restTo_skip (ys cols : List Int) (k : Nat) (h : cols.contains (k : Int) = true) : restTo ys cols (k + 1) = restTo ys cols k := by
  simp only [restTo, List.range_succ, List.filter_append, List.filter_cons, List.filter_nil, h, Bool.not_true, Bool.false_eq_true, if_false, List.append_nil]
theorem restTo_take (ys cols : List Int) (k : Nat) (h : cols.contains (k : Int) = false) : restTo ys cols (k + 1) = restTo ys cols k ++ [ys.getD k 0] := by
  simp only [restTo, List.range_succ, List.filter_append, List.map_append, List.filter_cons, List.filter_nil, h, Bool.not_false, if_true, List.map_cons, List.map_nil]
theorem restTo_length (ys cols : List Int) (k : Nat) : (restTo ys cols k).length ≤ k := by
  simp only [restTo, List.length_map]
  have := List.length_filter_le (fun j : Nat => !cols.contains (j : Int)) (List.range k)
  simpa using this

/-- The joined row while it is made. -/
def joinTo (xs ys cols : List Int) (k : Nat) : List Int := xs ++ restTo ys cols k
theorem joinTo_skip (xs ys cols : List Int) (k : Nat) (h : cols.contains (k : Int) = true) : joinTo xs ys cols (k + 1) = joinTo xs ys cols k := by rw [joinTo, joinTo, restTo_skip ys cols k h]
theorem joinTo_take (xs ys cols : List Int) (k : Nat) (h : cols.contains (k : Int) = false) : joinTo xs ys cols (k + 1) = joinTo xs ys cols k ++ [ys.getD k 0] := by rw [joinTo, joinTo, restTo_take ys cols k h, List.append_assoc]
theorem joinTo_length (xs ys cols : List Int) (k : Nat) : (joinTo xs ys cols k).length ≤ xs.length + k := by have := restTo_length ys cols k; simp [joinTo]; omega

theorem pairs2_at {ps : List (List Int)} (h : pairs2 ps = true) (k : Nat) (hk : k < ps.length) : (ps.getD k []).length = 2 := by
  simp only [pairs2, Bool.and_eq_true, decide_eq_true_eq, List.all_eq_true] at h
  have := h.2 ps[k] (List.getElem_mem hk)
  simpa [List.getD, hk] using this
theorem pairs2_len {ps : List (List Int)} (h : pairs2 ps = true) : ps.length ≤ 6 := by simp only [pairs2, Bool.and_eq_true, decide_eq_true_eq] at h; exact h.1
theorem pairs2_of {ps : List (List Int)} (hl : ps.length ≤ 6) (h : ∀ k, k < ps.length → (ps.getD k []).length = 2) : pairs2 ps = true := by
  simp only [pairs2, Bool.and_eq_true, decide_eq_true_eq, List.all_eq_true]
  refine ⟨hl, fun x hx => ?_⟩
  obtain ⟨k, hk, rfl⟩ := List.getElem_of_mem hx
  simpa [List.getD, hk] using h k hk
theorem pairs2_long {ps : List (List Int)} (h : 6 < ps.length) : pairs2 ps = false := by simp [pairs2]; omega
theorem not_pairs2 {ps : List (List Int)} (k : Nat) (hk : k < ps.length) (h : (ps.getD k []).length ≠ 2) : pairs2 ps = false := by
  cases hg : pairs2 ps with
  | false => rfl
  | true => exact absurd (pairs2_at hg k hk) h

theorem pairsOk_at {ps : List (List Int)} {na nb : Nat} (h : pairsOk ps na nb = true) (k : Nat) (hk : k < ps.length) :
    (ps.getD k []).length = 2 ∧ (0 ≤ (ps.getD k []).getD 0 0 ∧ (ps.getD k []).getD 0 0 < na) ∧ (0 ≤ (ps.getD k []).getD 1 0 ∧ (ps.getD k []).getD 1 0 < nb) := by
  simp only [pairsOk, pairIn, colIn, Bool.and_eq_true, decide_eq_true_eq, List.all_eq_true] at h
  have := h.2 ps[k] (List.getElem_mem hk)
  rw [show ps.getD k [] = ps[k] by simp [List.getD, hk]]
  exact ⟨this.1.1, this.1.2, this.2⟩
theorem pairsOk_len {ps : List (List Int)} {na nb : Nat} (h : pairsOk ps na nb = true) : ps.length ≤ 6 := by simp only [pairsOk, Bool.and_eq_true, decide_eq_true_eq] at h; exact h.1
theorem pairsOk_of {ps : List (List Int)} {na nb : Nat} (hl : ps.length ≤ 6) (h : ∀ k, k < ps.length → (ps.getD k []).length = 2 ∧ (0 ≤ (ps.getD k []).getD 0 0 ∧ (ps.getD k []).getD 0 0 < na) ∧ (0 ≤ (ps.getD k []).getD 1 0 ∧ (ps.getD k []).getD 1 0 < nb)) : pairsOk ps na nb = true := by
  simp only [pairsOk, pairIn, colIn, Bool.and_eq_true, decide_eq_true_eq, List.all_eq_true]
  refine ⟨hl, fun x hx => ?_⟩
  obtain ⟨k, hk, rfl⟩ := List.getElem_of_mem hx
  have := h k hk
  rw [show ps.getD k [] = ps[k] by simp [List.getD, hk]] at this
  exact ⟨⟨this.1, this.2.1⟩, this.2.2⟩
theorem pairsOk_long {ps : List (List Int)} {na nb : Nat} (h : 6 < ps.length) : pairsOk ps na nb = false := by simp [pairsOk]; omega
theorem not_pairsOk {ps : List (List Int)} {na nb : Nat} (k : Nat) (hk : k < ps.length) (h : ¬ ((ps.getD k []).length = 2 ∧ (0 ≤ (ps.getD k []).getD 0 0 ∧ (ps.getD k []).getD 0 0 < na) ∧ (0 ≤ (ps.getD k []).getD 1 0 ∧ (ps.getD k []).getD 1 0 < nb))) : pairsOk ps na nb = false := by
  cases hg : pairsOk ps na nb with
  | false => rfl
  | true => exact absurd (pairsOk_at hg k hk) h

theorem pairsOk_split (ps : List (List Int)) (na nb : Nat) : pairsOk ps na nb = (pairs2 ps && colsOk (side ps 0) na && colsOk (side ps 1) nb) := by
  rw [Bool.eq_iff_iff]
  simp only [Bool.and_eq_true]
  constructor
  · intro h
    have hl := pairsOk_len h
    refine ⟨⟨pairs2_of hl (fun k hk => (pairsOk_at h k hk).1), colsOk_of (by rw [side_length]; exact hl) (fun j hj => ?_)⟩, colsOk_of (by rw [side_length]; exact hl) (fun j hj => ?_)⟩
    · rw [side_length] at hj; rw [side_getD ps 0 j hj]; exact (pairsOk_at h j hj).2.1
    · rw [side_length] at hj; rw [side_getD ps 1 j hj]; exact (pairsOk_at h j hj).2.2
  · rintro ⟨⟨h1, h2⟩, h3⟩
    refine pairsOk_of (pairs2_len h1) (fun k hk => ⟨pairs2_at h1 k hk, ?_, ?_⟩)
    · have := colsOk_at h2 k (by rw [side_length]; exact hk); rwa [side_getD ps 0 k hk] at this
    · have := colsOk_at h3 k (by rw [side_length]; exact hk); rwa [side_getD ps 1 k hk] at this

theorem raised_dec {xs ys : List Int} (hl : xs.length = ys.length) : decide (raised xs = raised ys) = decide (xs = ys) := by
  rw [Bool.eq_iff_iff, decide_eq_true_eq, decide_eq_true_eq]
  constructor
  · intro h
    unfold raised at h
    have h2 := (List.append_inj h (by simpa using hl)).1
    apply List.ext_getElem hl
    intro i h1 h3
    have := congrArg (fun l => l.getD i 0) h2
    simp [List.getD, h1, h3] at this
    exact this
  · rintro rfl; rfl

theorem pick_good {zs cols : List Int} (h : pickOk zs cols = true) : ∀ k, k < (pick zs cols).length → -100000 ≤ (pick zs cols).getD k 0 ∧ (pick zs cols).getD k 0 ≤ 100000 := by
  intro k hk
  simp only [pickOk, Bool.and_eq_true] at h
  have hk' : k < cols.length := by simpa [pick] using hk
  have hc := colsOk_at h.2 k hk'
  rw [show (pick zs cols).getD k 0 = zs.getD (cols.getD k 0).toNat 0 by simp [pick, List.getD, hk']]
  exact good_cell h.1 _ (by omega)

theorem restTo_mem {ys cols : List Int} {k : Nat} (hk : k ≤ ys.length) : ∀ z ∈ restTo ys cols k, z ∈ ys := by
  intro z hz
  simp only [restTo, List.mem_map, List.mem_filter, List.mem_range] at hz
  obtain ⟨j, ⟨hj, _⟩, rfl⟩ := hz
  rw [show ys.getD j 0 = ys[j]'(by omega) by simp [List.getD, show j < ys.length by omega]]
  exact List.getElem_mem _

theorem good_joinZ {xs ys cols : List Int} (hx : good xs = true) (hy : good ys = true) : good (joinZ xs ys cols) = decide ((joinZ xs ys cols).length ≤ 6) := by
  have hall : (joinZ xs ys cols).all inb = true := by
    rw [List.all_eq_true]
    intro z hz
    rcases List.mem_append.1 hz with h | h
    · have := good_mem hx z h; simp [inb, this]
    · have := good_mem hy z (restTo_mem (Nat.le_refl _) z h); simp [inb, this]
  simp [good, hall]

end Go.Proofs.YthiabjkjpjmahaaGreat

/- Contracts of impl.arePairs, impl.sideOf, spec.l1Pairs. -/
namespace Go.Proofs.YthiabjkjpjmahaaGreat
open Go.RowKit

set_option maxHeartbeats 1000000 in
theorem arePairs_any (a : Option Addr) (n c : Nat) (ps : List (List Int)) (w : World) (hz : ps.length = n) (hn : n ≤ 9223372036854775807) (ha : AtS w a ps) :
    Calls Tryz.prog 167 #[.slice a n c] w fun e w' => e = .returned (.bool (pairs2 ps)) ∧ w' = w := by
  by_cases h6 : n ≤ 6
  · by_cases h0 : n = 0
    · subst h0
      obtain rfl := List.eq_nil_of_length_eq_zero hz
      go_enter Tryz.func167, Tryz.ntmps167
      go_wp2
      refine wp_loop_rounds 1 ?_
      rw [rounds_succ]
      go_wp2
      go_ret
      exact ⟨ret_bool (by simp [pairs2]), rfl⟩
    · obtain ⟨b, off, rfl, hc⟩ := ha.some (by omega)
      clear ha
      go_enter Tryz.func167, Tryz.ntmps167
      go_wp2
      go_loop [10] (fun i => ∃ k : Nat, k ≤ n ∧ i = .int .i64 k ∧ ∀ j, j < k → (ps.getD j []).length = 2) (fun i => n - (intOf i).toNat)
      case atStart => exact ⟨0, Nat.zero_le _, rfl, fun j hj => by omega⟩
      case round =>
        obtain ⟨k, hk, rfl, hall⟩ := hrel
        by_cases hlt : k < n
        · obtain ⟨q, d, hcx, hm, _⟩ := hc k (by omega)
          have HN := Hid.mk (not_pairs2 (ps := ps) k (by omega))
          have HA := Hid.mk hall
          obtain ⟨m, hmm⟩ : ∃ m, (ps.getD k []).length = m := ⟨_, rfl⟩
          rw [hmm] at hcx HN hm
          have HM := Hid.mk hmm
          clear hmm hc hall
          by_cases h2 : m = 2
          · have h2' : ((m : Int) != 2) = false := by simp; omega
            have H2 := Hid.mk h2
            clear h2
            go_wp2
            go_round
            case rel =>
              refine ⟨k + 1, by omega, by go_num, fun j hj => ?_⟩
              by_cases e : j = k
              · subst e; exact HM.out.trans H2.out
              · exact HA.out j (by omega)
            case measure => simp [intOf]; omega
          · have h2' : ((m : Int) != 2) = true := by simp; omega
            go_wp2
            go_ret
            exact ⟨ret_bool (HN.out h2).symm, rfl⟩
        · have HP := Hid.mk (pairs2_of (ps := ps) (by omega) (fun k hk => hall k (by omega)))
          go_wp2
          go_ret
          exact ⟨ret_bool HP.out.symm, rfl⟩
  · go_enter Tryz.func167, Tryz.ntmps167
    go_wp2
    go_ret
    exact ⟨ret_bool (pairs2_long (by omega)).symm, rfl⟩

set_option maxHeartbeats 2000000 in
theorem sideOf_any (a : Option Addr) (n c : Nat) (ps : List (List Int)) (sd : Nat) (w : World) (hz : ps.length = n) (hp : pairs2 ps = true) (hsd : sd ≤ 1) (ha : AtS w a ps) :
    Calls Tryz.prog 168 #[.slice a n c, .int .i64 sd] w fun e w' => ∃ r d, e = .returned (.slice r n d) ∧ w'.ownsRow w.heap.size 3 1 (.slice r n d) n ((side ps sd).map (.int .i64)) ∧ Below w.heap.size w w' := by
  have h6 := pairs2_len hp
  have h2 := fun k hk => pairs2_at hp k hk
  obtain ⟨i0, hi, hz0, hz1, hz2⟩ := info_parts Tryz.infoInt
  clear hp
  go_enter Tryz.func168, Tryz.ntmps168
  go_wp2
  go_loopw [5, 10] (fun v i wr => ∃ (k : Nat) (r : Option Addr) (d : Nat), k ≤ n ∧ i = .int .i64 k ∧ v = .slice r k d ∧ wr.ownsRow w.heap.size 3 1 (.slice r k d) k ((side (ps.take k) sd).map (.int .i64)) ∧ Below w.heap.size w wr) (fun _ i _ => n - (intOf i).toNat)
  case atStart => exact ⟨0, none, 0, Nat.zero_le _, rfl, rfl, World.ownsRow_nil _ _ _ _, Below.refl _ _⟩
  case round =>
    obtain ⟨k, r, d, hk, rfl, rfl, hown, hbw⟩ := hrel
    by_cases hlt : k < n
    · obtain ⟨b, off, rfl, hc⟩ := (ha.below hbw).some (by omega)
      obtain ⟨q, d', hcx, _, hat⟩ := hc k (by omega)
      have HS := Hid.mk (side_take ps sd k (by omega))
      have hl2 := h2 k (by omega)
      obtain ⟨b', off', rfl, hb', hc'⟩ := hat.some (by omega)
      have hcy := hc' sd (by omega)
      rw [hl2] at hcx
      obtain ⟨y, hy⟩ : ∃ y, y = (ps.getD k []).getD sd 0 := ⟨_, rfl⟩
      rw [← hy] at hcy HS
      have hsi : (sd : Int) < 2 := by omega
      have z2 := hbw.size
      clear hc hc' hy hl2 h2
      go_wp2_with (at_builtin; refine wpList_append_lies _ rfl (.tmp 14) (.tmp 19) 23 rfl w.heap.size 3 i0 (.int .i64 0) 1 8 Tryz.underlying23 hi hz0 hz1 hz2 rfl (by decide) _ _ _ rfl (hown.alloc _) ⟨wr.heap.size, 0, none⟩ 1 1 [.int .i64 y] rfl rfl (news_at wr _ _) (by simp; rfl) (by decide) (by unfold maxLen; omega) (by omega) (by simp; omega) (wr.heap.size + 1) (by simp) ?_)
      intro g cap w1 hown1 hgrow _ _
      have HB := Hid.mk ((hbw.alloc z2 _).grown hgrow (by simp; omega) (fun j hj => (hown.lt j hj).1))
      have HO : Hid (w1.ownsRow w.heap.size 3 1 (.slice (some ⟨g, 0, none⟩) (k + 1) cap) (k + 1) ((side (ps.take (k + 1)) sd).map (.int .i64))) := by
        rw [HS.out, List.map_append]; exact hown1
      clear hown1 hgrow hown hcx hcy
      go_wp2
      go_roundw
      case rel => exact ⟨k + 1, _, _, by omega, by go_num, rfl, HO.out, HB.out⟩
      case measure => simp [intOf]; omega
    · obtain rfl : k = n := by omega
      rw [← hz, List.take_length, hz] at hown
      go_wp2
      go_ret
      exact ⟨r, d, rfl, hown, hbw⟩

set_option maxHeartbeats 4000000 in
theorem l1Pairs_any (a : Option Addr) (n c : Nat) (ps : List (List Int)) (na nb : Nat) (w : World) (hz : ps.length = n) (hn : n ≤ 9223372036854775807) (ha : AtS w a ps) :
    Calls Tryz.prog 117 #[.slice a n c, .int .i64 na, .int .i64 nb] w fun e w' => e = .returned (.bool (pairsOk ps na nb)) ∧ w' = w := by
  by_cases h0 : n = 0
  · subst h0
    obtain rfl := List.eq_nil_of_length_eq_zero hz
    go_enter Tryz.func117, Tryz.ntmps117
    go_wp2
    refine wp_loop_rounds 1 ?_
    rw [rounds_succ]
    go_wp2
    go_ret
    exact ⟨ret_bool (by simp [pairsOk]), rfl⟩
  · obtain ⟨b, off, rfl, hc⟩ := ha.some (by omega)
    clear ha
    go_enter Tryz.func117, Tryz.ntmps117
    go_wp2
    go_loop [11] (fun i => ∃ k : Nat, k ≤ n ∧ i = .int .i64 k ∧ ∀ j, j < k → (ps.getD j []).length = 2 ∧ (0 ≤ (ps.getD j []).getD 0 0 ∧ (ps.getD j []).getD 0 0 < na) ∧ (0 ≤ (ps.getD j []).getD 1 0 ∧ (ps.getD j []).getD 1 0 < nb)) (fun i => n - (intOf i).toNat)
    case atStart => exact ⟨0, Nat.zero_le _, rfl, fun j hj => by omega⟩
    case round =>
      obtain ⟨k, hk, rfl, hall⟩ := hrel
      by_cases hlt : k < n
      · obtain ⟨q, d, hcx, hm, hat⟩ := hc k (by omega)
        have HN := Hid.mk (not_pairsOk (ps := ps) (na := na) (nb := nb) k (by omega))
        have HA := Hid.mk hall
        have HS : Hid ((ps.getD k []).length = 2 → (0 ≤ (ps.getD k []).getD 0 0 ∧ (ps.getD k []).getD 0 0 < na) → (0 ≤ (ps.getD k []).getD 1 0 ∧ (ps.getD k []).getD 1 0 < nb) → ∀ j, j < k + 1 → (ps.getD j []).length = 2 ∧ (0 ≤ (ps.getD j []).getD 0 0 ∧ (ps.getD j []).getD 0 0 < na) ∧ (0 ≤ (ps.getD j []).getD 1 0 ∧ (ps.getD j []).getD 1 0 < nb)) := fun x1 x2 x3 j hj => by
          by_cases e : j = k
          · subst e; exact ⟨x1, x2, x3⟩
          · exact HA.out j (by omega)
        clear hc hall HA
        generalize ps.getD k [] = ys at *
        obtain ⟨m, hmm⟩ : ∃ m, ys.length = m := ⟨_, rfl⟩
        rw [hmm] at hcx HN HS hm
        by_cases h2 : m = 2
        · subst h2
          obtain ⟨b', off', rfl, hb', hc'⟩ := hat.some (by omega)
          have hx := hc' 0 (by omega)
          have hy := hc' 1 (by omega)
          rw [Nat.add_zero] at hx
          clear hmm hc' hat
          generalize ys.getD 0 0 = x at *
          generalize ys.getD 1 0 = y at *
          by_cases x0 : x < 0
          · go_wp2
            go_ret
            exact ⟨ret_bool (HN.out (by omega)).symm, rfl⟩
          by_cases x1 : (na : Int) ≤ x
          · go_wp2
            go_ret
            exact ⟨ret_bool (HN.out (by omega)).symm, rfl⟩
          by_cases y0 : y < 0
          · go_wp2
            go_ret
            exact ⟨ret_bool (HN.out (by omega)).symm, rfl⟩
          by_cases y1 : (nb : Int) ≤ y
          · go_wp2
            go_ret
            exact ⟨ret_bool (HN.out (by omega)).symm, rfl⟩
          · go_wp2
            go_round
            case rel => exact ⟨k + 1, by omega, by go_num, HS.out (by trivial) (by omega) (by omega)⟩
            case measure => simp [intOf]; omega
        · have h2' : ((m : Int) != 2) = true := by simp; omega
          clear hat hmm
          go_wp2
          go_ret
          exact ⟨ret_bool (HN.out (by omega)).symm, rfl⟩
      · by_cases h6 : n ≤ 6
        · have HG := Hid.mk (pairsOk_of (ps := ps) (na := na) (nb := nb) (by omega) (fun j hj => hall j (by omega)))
          clear hall hc
          go_wp2
          go_ret
          exact ⟨ret_bool (by rw [HG.out]; simp; omega), rfl⟩
        · have HG := Hid.mk (pairsOk_long (ps := ps) (na := na) (nb := nb) (by omega))
          clear hall hc
          go_wp2
          go_ret
          exact ⟨ret_bool (by rw [HG.out]; simp; omega), rfl⟩

end Go.Proofs.YthiabjkjpjmahaaGreat

/- Contract of impl.joinCells. -/
namespace Go.Proofs.YthiabjkjpjmahaaGreat
open Go.RowKit

/-- Block g is an array of bools, free to be written. -/
def ArrB (w : World) (g : Nat) (t : TypeId) (bs : List Bool) : Prop := w.heap[g]? = some (.cells (bs.map Value.bool).toArray t (0, 0))
theorem ArrB.cell {w : World} {g : Nat} {t : TypeId} {bs : List Bool} (h : ArrB w g t bs) (k : Nat) (hk : k < bs.length) : w.cell? ⟨g, k, none⟩ = some (.bool (bs.getD k false)) := by
  rw [cell_of_row w g k _ t (0, 0) h]
  simp [List.getD, hk]
theorem ArrB.frozen {w : World} {g : Nat} {t : TypeId} {bs : List Bool} (h : ArrB w g t bs) (k : Nat) : w.frozen? ⟨g, k, none⟩ = false := frozen_of_row w g k _ t h
theorem ArrB.set {w : World} {g : Nat} {t : TypeId} {bs : List Bool} (h : ArrB w g t bs) (k : Nat) (v : Bool) : ArrB (w.setCell ⟨g, k, none⟩ (.bool v)) g t (bs.set k v) := by
  have := heap_setCell_same w g k _ t (.bool v) h
  unfold ArrB
  rw [this]
  simp [List.map_set]
theorem ArrB.below {w w' : World} {g : Nat} {t : TypeId} {bs : List Bool} {B : Nat} (h : ArrB w g t bs) (hb : Below B w w') (hg : g < B) : ArrB w' g t bs := (hb.block g hg).trans h
theorem ArrB.new {w : World} {cs : Array Value} {t : TypeId} {bs : List Bool} {g : Nat} (hg : g = w.heap.size) (hcs : cs = (bs.map Value.bool).toArray) : ArrB (w.alloc (.cells cs t)) g t bs := by
  subst hg hcs; exact heap_alloc_new w _

/-- Which of six columns are among the first k. -/
def Marked (bs : List Bool) (cols : List Int) (k : Nat) : Prop := bs.length = 6 ∧ ∀ j, j < 6 → bs.getD j false = (cols.take k).contains (j : Int)
theorem Marked.zero (cols : List Int) : Marked [false, false, false, false, false, false] cols 0 := ⟨rfl, fun j hj => by
  match j, hj with
  | 0, _ | 1, _ | 2, _ | 3, _ | 4, _ | 5, _ => simp⟩
theorem Marked.set {bs : List Bool} {cols : List Int} {k c : Nat} (h : Marked bs cols k) (hk : k < cols.length) (hc : cols.getD k 0 = (c : Int)) (h6 : c < 6) : Marked (bs.set c true) cols (k + 1) := by
  refine ⟨by simpa using h.1, fun j hj => ?_⟩
  rw [take_snocD cols k hk, hc]
  have hl := h.1
  by_cases e : c = j
  · subst e
    simp [List.getD, List.getElem?_set_self (show c < bs.length by omega)]
  · have := h.2 j hj
    rw [show (bs.set c true).getD j false = bs.getD j false by simp [List.getD, List.getElem?_set_ne e], this]
    simp only [List.contains_eq_mem, List.mem_append, List.mem_singleton]
    have : ¬ (j : Int) = (c : Int) := by omega
    simp [this]

set_option maxHeartbeats 4000000 in
theorem joinCells_any (a b q : Option Addr) (n n' m c c' d : Nat) (xs ys cols : List Int) (w : World) (hz : xs.length = n) (hz' : ys.length = n') (hq : cols.length = m) (hn : n ≤ 6) (hn' : n' ≤ 6) (hm : m ≤ 6)
    (hcols : ∀ j, j < m → 0 ≤ cols.getD j 0 ∧ cols.getD j 0 < n') (hnil : a = none → c = 0) (ha : At w a xs) (hb : At w b ys) (hc : At w q cols) :
    Calls Tryz.prog 169 #[.agg #[.slice a n c], .agg #[.slice b n' c'], .slice q m d] w fun e w' => ∃ r k dd, e = .returned (.agg #[.slice r k dd]) ∧ (joinZ xs ys cols).length = k ∧
      w'.ownsRow w.heap.size 3 1 (.slice r k dd) k ((joinZ xs ys cols).map (.int .i64)) ∧ Below w.heap.size w w' := by
  obtain ⟨i0, hi, hz0, hz1, hz2⟩ := info_parts Tryz.infoInt
  obtain ⟨w1, hW⟩ : ∃ w1, w1 = ((w.alloc (.cells #[.slice a n c] 80)).alloc (.cells #[.slice b n' c'] 80)).alloc (.cells #[.slice none 0 0] 80) := ⟨_, rfl⟩
  have B1 : Below w.heap.size w w1 := by rw [hW]; exact (((Below.refl _ _).alloc (Nat.le_refl _) _).alloc (by simp) _).alloc (by simp; omega) _
  have A1 : At w1 a xs := ha.below B1
  have A2 : At w1 b ys := hb.below B1
  have A3 : At w1 q cols := hc.below B1
  have c1 : w1.cell? ⟨w.heap.size, 0, none⟩ = some (.slice a n c) := by rw [hW]; simp [go_sem]
  have c2 : w1.cell? ⟨w.heap.size + 1, 0, none⟩ = some (.slice b n' c') := by rw [hW]; simp [go_sem]
  have c3 : w1.cell? ⟨w.heap.size + 1 + 1, 0, none⟩ = some (.slice none 0 0) := by rw [hW]; simp [go_sem]
  have f3 : w1.frozen? ⟨w.heap.size + 1 + 1, 0, none⟩ = false := by rw [hW]; simp [go_sem]
  have z1 : w1.heap.size = w.heap.size + 1 + 1 + 1 := by rw [hW]; simp
  have z1a : w1.heap.size ≤ w.heap.size + 1 + 1 + 1 := by omega
  have z1b : w.heap.size + 1 + 1 + 1 ≤ w1.heap.size := by omega
  have M0 : ArrB (w1.alloc (.cells #[.bool false, .bool false, .bool false, .bool false, .bool false, .bool false] 237)) (w.heap.size + 1 + 1 + 1) 237 [false, false, false, false, false, false] := ArrB.new z1.symm (by simp)
  clear ha hb hc z1
  go_enter Tryz.func169, Tryz.ntmps169
  go_wp2
  rw [← hW]
  clear hW
  go_loopw [15] (fun i wr => ∃ (k : Nat) (bs : List Bool), k ≤ m ∧ i = .int .i64 k ∧ Marked bs cols k ∧ ArrB wr (w.heap.size + 1 + 1 + 1) 237 bs ∧ w.heap.size + 1 + 1 + 1 < wr.heap.size ∧ Below w1.heap.size w1 wr) (fun i _ => m - (intOf i).toNat)
  case atStart => exact ⟨0, _, Nat.zero_le _, rfl, Marked.zero cols, M0, by simp; omega, (Below.refl _ _).alloc (Nat.le_refl _) _⟩
  case round =>
    clear M0
    obtain ⟨k, bs, hk, rfl, hmk, harr, hzr, hbw⟩ := hrel
    by_cases hlt : k < m
    · obtain ⟨b', off', rfl, hb', hc'⟩ := (A3.below hbw).some (by omega)
      have hcx := hc' k (by omega)
      obtain ⟨hx0, hx1⟩ := hcols k hlt
      obtain ⟨j, hj⟩ := Int.eq_ofNat_of_zero_le hx0
      rw [hj] at hcx hx1
      have hj6 : (j : Int) < 6 := by omega
      have hcell := harr.cell j (by have := hmk.1; omega)
      have hfz := harr.frozen j
      have HM := Hid.mk (hmk.set (by omega) hj (by omega))
      have HA := Hid.mk (harr.set j true)
      have HB : Hid (Below w1.heap.size w1 (wr.setCell ⟨w.heap.size + 1 + 1 + 1, j, none⟩ (.bool true))) := hbw.setCell z1a _
      generalize bs.getD j false = v0 at hcell
      clear hc' hj hmk harr hx0
      go_wp2
      go_roundw
      case rel => exact ⟨k + 1, _, by omega, by go_num, HM.out, HA.out, by simpa [World.setCell] using hzr, HB.out⟩
      case measure => simp [intOf]; omega
    · obtain rfl : k = m := by omega
      obtain ⟨V, rfl⟩ : ∃ V, V = wr := ⟨_, rfl⟩
      have g1 := cell_later hbw c1
      have g2 := cell_later hbw c2
      have g3 := cell_later hbw c3
      have g4 := frozen_later hbw c3 f3
      have BW := B1.trans (hbw.mono B1.size)
      have zA : w.heap.size < V.heap.size := by omega
      have zB : w.heap.size + 1 < V.heap.size := by omega
      have D1 := A1.below hbw
      have D2 := A2.below hbw
      have hmk' : ∀ j, j < 6 → bs.getD j false = cols.contains (j : Int) := fun j hj => by
        have := hmk.2 j hj
        rwa [← hq, List.take_length] at this
      have hbl := hmk.1
      have V0 : RowVar (V.alloc (.cells #[.slice none 0 0] 80)) V.heap.size 80 (V.heap.size + 1) 3 none 0 0 [] := RowVar.new rfl (by omega)
      have D1' := D1.alloc (.cells #[.slice none 0 0] 80)
      clear A1 A2 A3 c1 c2 c3 f3 B1 hmk hcols
      go_wp2_with (at_builtin; refine wpList_append_all rfl (.tmp 23) (.tmp 25) 23 rfl (V.heap.size + 1) 3 i0 (.int .i64 0) 8 Tryz.underlying23 hi hz0 hz1 hz2 rfl _ _ _ rfl V0.own a n c xs rfl hz D1' hnil (by unfold maxLen; omega) (by omega) (by simp) ?_; intro r cap w2 hown2 hgrow2; rw [Nat.zero_add] at hown2; rw [Nat.zero_add]; obtain ⟨t1, t2, V1⟩ := V0.put hz hown2 hgrow2; have B2 : Below V.heap.size V (w2.setCell ⟨V.heap.size, 0, none⟩ (.slice r n cap)) := V0.put_below hgrow2 ((Below.refl _ _).alloc (Nat.le_refl _) _) (Nat.le_refl _); have k2 := cell_later B2 g2)
      obtain ⟨w3, hw3⟩ : ∃ w3, w3 = w2.setCell ⟨V.heap.size, 0, none⟩ (.slice r n cap) := ⟨_, rfl⟩
      rw [← hw3] at V1 B2
      rw [← hw3]
      have hxj : xs = joinTo xs ys cols 0 := by simp [joinTo, restTo]
      rw [hxj] at V1
      clear hw3 hown2 hgrow2 V0 D1' g1 t1 t2 k2 hxj D1
      go_loopw [31] (fun i ws => ∃ (j : Nat) (r : Option Addr) (l cap : Nat), j ≤ n' ∧ i = .int .i64 j ∧ RowVar ws V.heap.size 80 (V.heap.size + 1) 3 r l cap (joinTo xs ys cols j) ∧ Below V.heap.size V ws) (fun i _ => n' - (intOf i).toNat)
      case atStart => exact ⟨0, r, n, cap, Nat.zero_le _, rfl, V1, B2⟩
      case round =>
        clear V1 B2
        obtain ⟨j, r3, l, cap3, hj, rfl, hv, hbs⟩ := hrel
        have e3 := cell_later hbs g3
        have e4 := frozen_later hbs g3 g4
        have BS := BW.trans (hbs.mono BW.size)
        have zs2 := hbs.size
        by_cases hjl : j < n'
        · obtain ⟨b2, off2, rfl, hb2, hc2⟩ := (D2.below hbs).some (by omega)
          have hcy := hc2 j (by omega)
          have harr2 := (harr.below hbs hzr).cell j (by omega)
          have hmj := hmk' j (by omega)
          have hj6 : (j : Int) < 6 := by omega
          have hlen := joinTo_length xs ys cols j
          have hl13 : l ≤ 12 := by have := hv.1; omega
          have hcr := hv.cell
          have hfr := hv.frozen
          have HT := Hid.mk (joinTo_take xs ys cols j)
          have HK := Hid.mk (joinTo_skip xs ys cols j)
          generalize ys.getD j 0 = y at hcy HT
          rw [hmj] at harr2
          clear hc2 hmj hlen
          cases hct : cols.contains (j : Int) with
          | true =>
            rw [hct] at harr2
            have HE := Hid.mk (HK.out hct)
            clear HK HT hct
            go_wp2
            go_roundw
            case rel => exact ⟨j + 1, r3, l, cap3, by omega, by go_num, by rw [HE.out]; exact hv, hbs⟩
            case measure => simp [intOf]; omega
          | false =>
            rw [hct] at harr2
            have HE := Hid.mk (HT.out hct)
            clear HK HT hct
            go_wp2_with (at_builtin; refine wpList_append_lies _ rfl (.tmp 41) (.tmp 43) 23 rfl (V.heap.size + 1) 3 i0 (.int .i64 0) 1 8 Tryz.underlying23 hi hz0 hz1 hz2 rfl (by decide) _ _ _ rfl (hv.own.alloc _) ⟨wr.heap.size, 0, none⟩ 1 1 [.int .i64 y] rfl rfl (news_at wr _ _) (by simp; rfl) (by decide) (by unfold maxLen; omega) (by omega) (by simp; omega) (wr.heap.size + 1) (by simp) ?_; intro g2 cap2 w4 hown4 hgrow4 _ _; obtain ⟨t1, t2, hv4⟩ := hv.pushed hown4 hgrow4)
            have HB := Hid.mk (hv.pushed_below (v := .slice (some ⟨g2, 0, none⟩) (l + 1) cap2) hgrow4 hbs (Nat.le_refl _))
            rw [← HE.out] at hv4
            have HV := Hid.mk hv4
            clear hv4 hown4 hgrow4 hv hbs t1 t2
            go_roundw
            case rel => exact ⟨j + 1, _, _, _, by omega, by go_num, HV.out, HB.out⟩
            case measure => simp [intOf]; omega
        · obtain rfl : j = n' := by omega
          have hjz : joinTo xs ys cols j = joinZ xs ys cols := by rw [joinZ, joinTo, hz']
          rw [hjz] at hv
          have hcr := hv.cell
          go_wp2
          refine bodyPost_ret (v := .agg #[.slice r3 l cap3]) (by simp [results, Tryz.results169, go_sem, e3]) rfl ⟨r3, l, cap3, rfl, hv.1, ?_, ?_⟩
          · exact owns_mono (ownsRow_setCell_below hv.own (by simp; omega) _) (by omega)
          · exact BS.setCell (by simp; omega) _

end Go.Proofs.YthiabjkjpjmahaaGreat
