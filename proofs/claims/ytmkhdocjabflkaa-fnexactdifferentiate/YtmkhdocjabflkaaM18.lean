/- Several texts of one proof, in build order: JoinP, Alike, DD, ScaleP, LstP. -/
import Derived.Test.YtmkhdocjabflkaaM15
import Derived.Test.YtmkhdocjabflkaaM13
import Derived.Test.YtmkhdocjabflkaaM17
import Derived.Test.YtmkhdocjabflkaaM10
import Derived.Test.YtmkhdocjabflkaaM9
import Derived.Test.YtmkhdocjabflkaaM2

/- Plain: what is joined of two lists of weighted rows. -/
namespace Go.Proofs.Ytmkhdocjabflkaa

def joinG (ps : List (List Int)) (t u : WRow) : Option WRow := if joinOk t.1 u.1 ps = true then some (joinAns t.1 u.1 ps, t.2 * u.2) else none
def joinL (xs ys : List WRow) (ps : List (List Int)) : List WRow := xs.flatMap fun t => ys.filterMap (joinG ps t)
def outJ (xs ys : List WRow) (ps : List (List Int)) (k : Nat) : Nat := (joinL (xs.take k) ys ps).length
theorem outJ_succ {xs ys : List WRow} {ps : List (List Int)} {k : Nat} (h : k < xs.length) : outJ xs ys ps (k + 1) = outJ xs ys ps k + (ys.filterMap (joinG ps (wat xs k))).length := by
  unfold outJ joinL
  rw [wtake_succ xs k h, List.flatMap_append, List.length_append]
  simp
theorem wsplit {xs : List WRow} {k : Nat} (h : k < xs.length) : xs = xs.take k ++ wat xs k :: xs.drop (k + 1) := by
  have h3 := (List.take_append_drop k xs).symm
  rw [List.drop_eq_getElem_cons h] at h3
  rw [show wat xs k = xs[k] by simp [wat, List.getD, h]]
  exact h3
theorem joinL_at {xs ys : List WRow} {ps : List (List Int)} {k j : Nat} (h : k < xs.length) (hj : j < (ys.filterMap (joinG ps (wat xs k))).length) :
    outJ xs ys ps k + j < (joinL xs ys ps).length ∧ wat (joinL xs ys ps) (outJ xs ys ps k + j) = wat (ys.filterMap (joinG ps (wat xs k))) j := by
  have e : joinL xs ys ps = joinL (xs.take k) ys ps ++ (ys.filterMap (joinG ps (wat xs k)) ++ joinL (xs.drop (k + 1)) ys ps) := by
    have h4 := congrArg (fun l => joinL l ys ps) (wsplit h)
    simp only [joinL, List.flatMap_append, List.flatMap_cons] at h4
    exact h4
  rw [e]
  unfold outJ
  generalize ys.filterMap (joinG ps (wat xs k)) = M at *
  refine ⟨by simp only [List.length_append]; omega, ?_⟩
  simp only [wat, List.getD]
  rw [List.getElem?_append_right (by omega), Nat.add_sub_cancel_left, List.getElem?_append_left hj]

/-- How many of so many columns are in no pair. -/
def leftN (cols : List Int) (k : Nat) : Nat := ((List.range k).filter fun (j : Nat) => !cols.contains (j : Int)).length
theorem leftN_skip (cols : List Int) (k : Nat) (h : cols.contains (k : Int) = true) : leftN cols (k + 1) = leftN cols k := by
  simp only [leftN, List.range_succ, List.filter_append, List.filter_cons, List.filter_nil, h, Bool.not_true, Bool.false_eq_true, if_false, List.append_nil]
theorem leftN_take (cols : List Int) (k : Nat) (h : cols.contains (k : Int) = false) : leftN cols (k + 1) = leftN cols k + 1 := by
  simp only [leftN, List.range_succ, List.filter_append, List.filter_cons, List.filter_nil, h, Bool.not_false, if_true, List.length_append, List.length_cons, List.length_nil]
theorem leftN_le (cols : List Int) (k : Nat) : leftN cols k ≤ k := by
  have := List.length_filter_le (fun j : Nat => !cols.contains (j : Int)) (List.range k)
  simpa [leftN] using this
theorem restTo_len (ys cols : List Int) (k : Nat) : (restTo ys cols k).length = leftN cols k := by simp [restTo, leftN]
theorem joinZ_len (xs ys cols : List Int) : (joinZ xs ys cols).length = xs.length + leftN cols ys.length := by rw [joinZ, List.length_append, restTo_len]

def joinC (p q : Int) (ps : List (List Int)) : Nat := p.toNat + leftN (side ps 1) q.toNat
def joinW (ts us : List WRow) (ps : List (List Int)) : List WRow := putAll [] (joinL ts us ps)
def joinB (p q : Int) (ts us : List WRow) (ps : List (List Int)) : Bool := goodT p ts && (goodT q us && (pairsOk ps p.toNat q.toNat && (decide (joinC p q ps ≤ 6) && goodT (joinC p q ps) (joinW ts us ps))))
section
variable {p q : Int} {ts us : List WRow} {ps : List (List Int)}
theorem joinB_a (h : goodT p ts = false) : joinB p q ts us ps = false := by simp [joinB, h]
theorem joinB_b (h : goodT q us = false) : joinB p q ts us ps = false := by simp [joinB, h]
theorem joinB_p (h : pairsOk ps p.toNat q.toNat = false) : joinB p q ts us ps = false := by simp [joinB, h]
theorem joinB_c (h : 6 < joinC p q ps) : joinB p q ts us ps = false := by
  have : decide (joinC p q ps ≤ 6) = false := by simp; omega
  simp [joinB, this]
theorem joinB_yes (h1 : goodT p ts = true) (h2 : goodT q us = true) (h3 : pairsOk ps p.toNat q.toNat = true) (h4 : joinC p q ps ≤ 6) : joinB p q ts us ps = goodT (joinC p q ps) (joinW ts us ps) := by simp [joinB, h1, h2, h3, h4]
theorem joinB_goodT (h : joinB p q ts us ps = true) : goodT (joinC p q ps) (joinW ts us ps) = true := by
  simp only [joinB, Bool.and_eq_true] at h
  exact h.2.2.2.2
end

theorem good_noughts' {q : Nat} (h : q ≤ 6) : good (List.replicate q 0) = true := by
  refine good_of (by simpa using h) fun k hk => ?_
  have : (List.replicate q (0 : Int)).getD k 0 = 0 := by
    rw [List.getD_eq_getElem?_getD, List.getElem?_replicate]; split <;> rfl
  rw [this]; omega
theorem pick_noughts (q : Nat) (cols : List Int) : pick (List.replicate q 0) cols = List.replicate cols.length 0 := by
  unfold pick
  rw [List.eq_replicate_iff]
  refine ⟨by simp, fun x hx => ?_⟩
  obtain ⟨c, _, rfl⟩ := List.mem_map.1 hx
  rw [List.getD_eq_getElem?_getD, List.getElem?_replicate]; split <;> rfl
theorem joinOk_noughts {p q : Nat} (hp : p ≤ 6) (hq : q ≤ 6) (ps : List (List Int)) : joinOk (List.replicate p 0) (List.replicate q 0) ps = (pairsOk ps p q && decide (joinC p q ps ≤ 6)) := by
  unfold joinOk
  rw [good_noughts' hp, good_noughts' hq, pick_noughts, pick_noughts, side_length, side_length, joinZ_len, List.length_replicate, List.length_replicate, decide_eq_true rfl]
  simp [joinC]
  rfl
theorem joinAns_noughts {p q : Nat} {ps : List (List Int)} (h : joinOk (List.replicate p 0) (List.replicate q 0) ps = true) : (joinAns (List.replicate p 0) (List.replicate q 0) ps).length = joinC p q ps := by
  unfold joinAns
  rw [if_pos h, joinZ_len]
  simp [joinC]

theorem prod_in {x y : Int} (h1 : -1000000 ≤ x) (h2 : x ≤ 1000000) (h3 : -1000000 ≤ y) (h4 : y ≤ 1000000) : -1000000000000 ≤ x * y ∧ x * y ≤ 1000000000000 := by
  have a := Int.mul_nonneg (show 0 ≤ 1000000 - x by omega) (show 0 ≤ 1000000 + y by omega)
  have b := Int.mul_nonneg (show 0 ≤ 1000000 + x by omega) (show 0 ≤ 1000000 - y by omega)
  have c := Int.mul_nonneg (show 0 ≤ 1000000 - x by omega) (show 0 ≤ 1000000 - y by omega)
  have d := Int.mul_nonneg (show 0 ≤ 1000000 + x by omega) (show 0 ≤ 1000000 + y by omega)
  simp only [Int.sub_mul, Int.add_mul, Int.mul_sub, Int.mul_add] at a b c d
  constructor <;> omega
theorem prod_wrap {x y : Int} (h1 : -1000000 ≤ x) (h2 : x ≤ 1000000) (h3 : -1000000 ≤ y) (h4 : y ≤ 1000000) : IntKind.i64.wrap (x * y) = x * y := by
  have := prod_in h1 h2 h3 h4
  exact IntWalk.i64_in _ (by omega)

theorem prod_wrap64 {x y : Int} (h1 : -1000000 ≤ x) (h2 : x ≤ 1000000) (h3 : -1000000 ≤ y) (h4 : y ≤ 1000000) : Go.RowKit.wrap64 (x * y) = x * y := by
  have := prod_in h1 h2 h3 h4
  unfold Go.RowKit.wrap64; omega

theorem joinG_some {ps : List (List Int)} {t u v : WRow} (h : joinG ps t u = some v) : joinOk t.1 u.1 ps = true ∧ v = (joinZ t.1 u.1 (side ps 1), t.2 * u.2) := by
  unfold joinG at h
  split at h
  · rename_i h1
    cases h
    exact ⟨h1, by rw [joinAns, if_pos h1]⟩
  · cases h
theorem joinL_mem {xs ys : List WRow} {ps : List (List Int)} {t : WRow} (h : t ∈ joinL xs ys ps) : ∃ a ∈ xs, ∃ b ∈ ys, joinG ps a b = some t := by
  unfold joinL at h
  obtain ⟨a, ha, h1⟩ := List.mem_flatMap.1 h
  obtain ⟨b, hb, h2⟩ := List.mem_filterMap.1 h1
  exact ⟨a, ha, b, hb, h2⟩
theorem joinG_row {p q : Nat} {ts us : List WRow} {ps : List (List Int)} (h : goodT p ts = true) (k : goodT q us = true) {a b t : WRow} (ha : a ∈ ts) (hb : b ∈ us) (hg : joinG ps a b = some t) :
    good t.1 = true ∧ t.1.length = joinC p q ps ∧ -1000000000000 ≤ t.2 ∧ t.2 ≤ 1000000000000 := by
  obtain ⟨h1, rfl⟩ := joinG_some hg
  have ga := goodT_mem h a ha
  have gb := goodT_mem k b hb
  have wa := (goodL_mem (goodL_of_goodT h) a ha).2.2
  have wb := (goodL_mem (goodL_of_goodT k) b hb).2.2
  have hj : (joinZ a.1 b.1 (side ps 1)).length ≤ 6 := by
    simp only [joinOk, Bool.and_eq_true, decide_eq_true_eq] at h1
    exact h1.2
  refine ⟨?_, ?_, prod_in wa.1 wa.2 wb.1 wb.2⟩
  · show good (joinZ a.1 b.1 (side ps 1)) = true
    rw [good_joinZ ga.1 gb.1, decide_eq_true hj]
  · show (joinZ a.1 b.1 (side ps 1)).length = _
    rw [joinZ_len, ga.2, gb.2]; simp [joinC]
theorem joinL_rows {p q : Nat} {ts us : List WRow} {ps : List (List Int)} (h : goodT p ts = true) (k : goodT q us = true) : ∀ t ∈ joinL ts us ps, good t.1 = true ∧ t.1.length = joinC p q ps ∧ -1000000000000 ≤ t.2 ∧ t.2 ≤ 1000000000000 := fun t ht => by
  obtain ⟨a, ha, b, hb, hg⟩ := joinL_mem ht
  exact joinG_row h k ha hb hg
theorem joinL_len (xs ys : List WRow) (ps : List (List Int)) : (joinL xs ys ps).length ≤ xs.length * ys.length := by
  unfold joinL
  induction xs with
  | nil => simp
  | cons t xs ih =>
    rw [List.flatMap_cons, List.length_append, List.length_cons, Nat.succ_mul]
    have := List.length_filterMap_le (joinG ps t) ys
    omega
theorem tells_join {p q : Nat} {ts us : List WRow} {ps : List (List Int)} (h : goodT p ts = true) (k : goodT q us = true) : Tells (joinC p q ps) (sumAt (joinL ts us ps) (joinL ts us ps).length 1) (joinW ts us ps) :=
  tells_put List.Pairwise.nil (fun t ht => by cases ht) (fun t ht => by cases ht) (fun t ht => by have := joinL_rows h k t ht; exact ⟨this.1, this.2.1⟩)
    fun zs h1 _ => by rw [sumAt_sumW rfl 1 (fun t ht => (joinL_rows h k t ht).1) h1, wOf_nil]; omega

/-- What has come of the join when k rows of the one are through and j of the other with the next. -/
def accJ (ts us : List WRow) (ps : List (List Int)) (k j : Nat) : List WRow := joinL (ts.take k) us ps ++ (us.take j).filterMap (joinG ps (wat ts k))
section
variable {ts us : List WRow} {ps : List (List Int)} {k j : Nat}
theorem accJ_zero : accJ ts us ps k 0 = joinL (ts.take k) us ps := by simp [accJ]
theorem accJ_some (hj : j < us.length) {v : WRow} (h : joinG ps (wat ts k) (wat us j) = some v) : putAll [] (accJ ts us ps k (j + 1)) = putW (putAll [] (accJ ts us ps k j)) v.1 v.2 := by
  have e : accJ ts us ps k (j + 1) = accJ ts us ps k j ++ [v] := by
    unfold accJ
    rw [wtake_succ us j hj, List.filterMap_append, List.filterMap_cons, h, List.append_assoc]
    rfl
  rw [e, putAll_snoc]
theorem accJ_none (hj : j < us.length) (h : joinG ps (wat ts k) (wat us j) = none) : accJ ts us ps k (j + 1) = accJ ts us ps k j := by
  unfold accJ
  rw [wtake_succ us j hj, List.filterMap_append, List.filterMap_cons, h]
  simp
theorem accJ_all (hk : k < ts.length) : accJ ts us ps k us.length = joinL (ts.take (k + 1)) us ps := by
  unfold accJ joinL
  rw [wtake_succ ts k hk, List.flatMap_append, List.take_length]
  simp
theorem accJ_len (h1 : ts.length ≤ 60) (h2 : us.length ≤ 60) (hk : k < ts.length) : (accJ ts us ps k j).length ≤ 3600 := by
  unfold accJ
  rw [List.length_append]
  have a := joinL_len (ts.take k) us ps
  have b := List.length_filterMap_le (joinG ps (wat ts k)) (us.take j)
  rw [List.length_take] at a b
  have c : min k ts.length * us.length ≤ 59 * 60 := Nat.mul_le_mul (by omega) h2
  omega
theorem accJ_row {p q : Nat} (h : goodT p ts = true) (g : goodT q us = true) (hk : k < ts.length) : ∀ t ∈ accJ ts us ps k j, good t.1 = true ∧ t.1.length = joinC p q ps ∧ -1000000000000 ≤ t.2 ∧ t.2 ≤ 1000000000000 := fun t ht => by
  rcases List.mem_append.1 ht with h1 | h1
  · obtain ⟨a, ha, b, hb, hg⟩ := joinL_mem h1
    exact joinG_row h g (List.mem_of_mem_take ha) hb hg
  · obtain ⟨b, hb, hg⟩ := List.mem_filterMap.1 h1
    exact joinG_row h g (wat_mem hk) (List.mem_of_mem_take hb) hg
end

theorem putAll_in' {l : List WRow} {M : Int} (hM : 0 ≤ M) (hl : ∀ t ∈ l, t.1.length ≤ 6 ∧ -M ≤ t.2 ∧ t.2 ≤ M) : ∀ t ∈ putAll [] l, t.1.length ≤ 6 ∧ -(M * l.length) ≤ t.2 ∧ t.2 ≤ M * l.length := fun t h => by
  have hr : Rises [] := List.Pairwise.nil
  have h6 : t.1.length ≤ 6 := by
    rcases putAll_rows h with ⟨s, hs, e⟩ | ⟨s, hs, e⟩
    · cases hs
    · rw [← e]; exact (hl s hs).1
  have hw := wOf_mem (putAll_rises (l := l) hr) h
  rw [putAll_wOf t.1 hr] at hw
  have b2 := sumW_bound (zs := t.1) hM (fun s hs => (hl s hs).2)
  have b0 : wOf [] t.1 = 0 := rfl
  omega

/-- All that a walk of the inner loop asks of them. -/
theorem accJ_pack {p q : Nat} {ts us : List WRow} {ps : List (List Int)} {k n' : Nat} (h : goodT p ts = true) (g : goodT q us = true) (hk : k < ts.length) (hn' : us.length = n') :
    ∃ AC : Nat → List WRow, AC 0 = putAll [] (joinL (ts.take k) us ps) ∧ (∀ j v, j < n' → joinG ps (wat ts k) (wat us j) = some v → AC (j + 1) = putW (AC j) v.1 v.2) ∧ (∀ j, j < n' → joinG ps (wat ts k) (wat us j) = none → AC (j + 1) = AC j) ∧
      AC n' = putAll [] (joinL (ts.take (k + 1)) us ps) ∧ ∀ j, (AC j).length ≤ 3600 ∧ ∀ i, i < (AC j).length → (wat (AC j) i).1.length ≤ 6 ∧ -4000000000000000000 ≤ (wat (AC j) i).2 ∧ (wat (AC j) i).2 ≤ 4000000000000000000 := by
  refine ⟨fun j => putAll [] (accJ ts us ps k j), by simp only [accJ_zero], fun j v hj hv => accJ_some (by omega) hv, fun j hj hv => by simp only [accJ_none (show j < us.length by omega) hv], by subst hn'; simp only [accJ_all hk], fun j => ?_⟩
  have hl := accJ_len (ps := ps) (j := j) (goodT_len60 h) (goodT_len60 g) hk
  refine ⟨?_, fun i hi => ?_⟩
  · have := putAll_len (accJ ts us ps k j) []
    simp only [List.length_nil] at this
    show (putAll [] (accJ ts us ps k j)).length ≤ 3600
    omega
  · have := at_of_mem (putAll_in' (M := 1000000000000) (by omega) (fun t ht => by have := accJ_row (ps := ps) h g hk t ht; exact ⟨good_len this.1, this.2.2⟩)) i hi
    refine ⟨this.1, ?_, ?_⟩ <;> (dsimp only; omega)

/-- The model's join of two rows, where all is good. -/
theorem l1B_joinOk {xs ys : List Int} {ps : List (List Int)} (hx : good xs = true) (hy : good ys = true) (hp : pairsOk ps xs.length ys.length = true) : l1B xs ys ps = joinOk xs ys ps := by
  simp [joinOk, l1B, hx, hy, hp]
theorem l1Z_joinAns {xs ys : List Int} {ps : List (List Int)} (h : joinOk xs ys ps = true) : l1Z xs ys ps = joinAns xs ys ps := by
  have : pick xs (side ps 0) = pick ys (side ps 1) := by simp only [joinOk, Bool.and_eq_true, decide_eq_true_eq] at h; exact h.1.2
  simp [joinAns, h, l1Z, this]

end Go.Proofs.Ytmkhdocjabflkaa

/- Contract of impl.goodAlike. -/
namespace Go.Proofs.Ytmkhdocjabflkaa
open Go.RowKit Go.Maps

/-- Two good tables with as many columns. -/
def alike (p : Int) (ts : List WRow) (p' : Int) (ts' : List WRow) : Bool := goodT p ts && (goodT p' ts' && decide (p = p'))

set_option maxHeartbeats 2000000 in
theorem goodAlike_any (a a' : Option Addr) (n n' c c' : Nat) (ts ts' : List WRow) (p p' : Int) (w : World) (hz : ts.length = n) (hz' : ts'.length = n') (hn : n ≤ 1048576) (hn' : n' ≤ 1048576) (ha : AtW w a ts) (ha' : AtW w a' ts') :
    Calls Try.prog 45 #[.agg #[.int .i64 p, .slice a n c], .agg #[.int .i64 p', .slice a' n' c']] w fun e w' => e = .returned (.bool (alike p ts p' ts')) ∧ Below w.heap.size w w' := by
  obtain ⟨W, hW⟩ : ∃ W, W = (w.alloc (.cells #[.int .i64 p, .slice a n c] 25)).alloc (.cells #[.int .i64 p', .slice a' n' c'] 25) := ⟨_, rfl⟩
  have B0 : Below w.heap.size w W := by rw [hW]; exact ((Below.refl _ _).alloc (Nat.le_refl _) _).alloc (by simp) _
  have c0 : W.cell? ⟨w.heap.size, 0, none⟩ = some (.int .i64 p) := by rw [hW]; simp
  have c1 : W.cell? ⟨w.heap.size, 1, none⟩ = some (.slice a n c) := by rw [hW]; simp
  have b0 : W.cell? ⟨w.heap.size + 1, 0, none⟩ = some (.int .i64 p') := by rw [hW]; simp
  have b1 : W.cell? ⟨w.heap.size + 1, 1, none⟩ = some (.slice a' n' c') := by rw [hW]; simp
  have HA := ha.below B0
  have HA' := ha'.below B0
  clear ha ha'
  cases hg : goodT p ts with
  | false =>
    have HG := Hid.mk hg
    clear hg
    go_enter Try.func45, Try.ntmps45
    go_wp2_with fail
    rw [← hW]
    clear hW
    refine (implGoodTable_any _ _ _ ts _ _ hz hn HA).mono ?_
    rintro e w1 ⟨rfl, hb1⟩
    rw [HG.out]
    go_wp2
    go_ret
    exact ⟨ret_bool (by simp [alike, HG.out]), B0.trans (hb1.mono B0.size)⟩
  | true =>
    have HG := Hid.mk hg
    clear hg
    cases hg' : goodT p' ts' with
    | false =>
      have HG' := Hid.mk hg'
      clear hg'
      go_enter Try.func45, Try.ntmps45
      go_wp2_with fail
      rw [← hW]
      clear hW
      refine (implGoodTable_any _ _ _ ts _ _ hz hn HA).mono ?_
      rintro e w1 ⟨rfl, hb1⟩
      rw [HG.out]
      have b0 := cell_later hb1 b0
      have b1 := cell_later hb1 b1
      go_wp2_with fail
      refine (implGoodTable_any _ _ _ ts' _ _ hz' hn' (HA'.below hb1)).mono ?_
      rintro e w2 ⟨rfl, hb2⟩
      rw [HG'.out]
      have B1 := B0.trans (hb1.mono B0.size)
      go_wp2
      go_ret
      exact ⟨ret_bool (by simp [alike, HG.out, HG'.out]), B1.trans (hb2.mono B1.size)⟩
    | true =>
      have HG' := Hid.mk hg'
      clear hg'
      go_enter Try.func45, Try.ntmps45
      go_wp2_with fail
      rw [← hW]
      clear hW
      refine (implGoodTable_any _ _ _ ts _ _ hz hn HA).mono ?_
      rintro e w1 ⟨rfl, hb1⟩
      rw [HG.out]
      have b1 := cell_later hb1 b1
      have c0 := cell_later hb1 c0
      have b0 := cell_later hb1 b0
      go_wp2_with fail
      refine (implGoodTable_any _ _ _ ts' _ _ hz' hn' (HA'.below hb1)).mono ?_
      rintro e w2 ⟨rfl, hb2⟩
      rw [HG'.out]
      have c0 := cell_later hb2 c0
      have b0 := cell_later hb2 b0
      have B1 := B0.trans (hb1.mono B0.size)
      go_wp2
      go_ret
      exact ⟨ret_bool (by show _ = (goodT p ts && (goodT p' ts' && decide (p = p'))); rw [HG.out, HG'.out]; rfl), B1.trans (hb2.mono B1.size)⟩

theorem alike_parts {p : Int} {ts : List WRow} {p' : Int} {ts' : List WRow} (h : alike p ts p' ts' = true) : goodT p ts = true ∧ goodT p' ts' = true ∧ p = p' := by
  simpa [alike] using h

end Go.Proofs.Ytmkhdocjabflkaa

/- Plain: what DistinctDelta tells. -/
namespace Go.Proofs.Ytmkhdocjabflkaa

def onceF (x : Int) : Int := if 0 < x then 1 else 0
/-- How a row's being there once changes. -/
def ddG (ts : List WRow) (t : WRow) : Option WRow :=
  if 0 < wOf ts t.1 ∧ wOf ts t.1 + t.2 ≤ 0 then some (t.1, -1) else if wOf ts t.1 ≤ 0 ∧ 0 < wOf ts t.1 + t.2 then some (t.1, 1) else none
def ddW (ts us : List WRow) : List WRow := us.filterMap (ddG ts)
def ddB (p : Int) (ts : List WRow) (p' : Int) (us : List WRow) : Bool := alike p ts p' us && (goodT p (putAll ts us) && goodT p (ddW ts us))
theorem ddG_some {ts : List WRow} {t s : WRow} (h : ddG ts t = some s) : s.1 = t.1 ∧ s.2 = onceF (wOf ts t.1 + t.2) - onceF (wOf ts t.1) ∧ s.2 ≠ 0 ∧ -1 ≤ s.2 ∧ s.2 ≤ 1 := by
  unfold ddG at h
  split at h
  · rename_i h1
    cases h
    refine ⟨rfl, ?_, by simp, by simp, by simp⟩
    simp only [onceF, if_pos h1.1, if_neg (show ¬ 0 < wOf ts t.1 + t.2 by omega)]
    rfl
  · split at h
    · rename_i h1
      cases h
      refine ⟨rfl, ?_, by simp, by simp, by simp⟩
      simp only [onceF, if_pos h1.2, if_neg (show ¬ 0 < wOf ts t.1 by omega)]
      rfl
    · cases h
theorem ddG_none {ts : List WRow} {t : WRow} (h : ddG ts t = none) : onceF (wOf ts t.1 + t.2) - onceF (wOf ts t.1) = 0 := by
  unfold ddG at h
  split at h
  · cases h
  · split at h
    · cases h
    · rename_i h1 h2
      unfold onceF
      by_cases a : 0 < wOf ts t.1
      · rw [if_pos a, if_pos (by omega)]; rfl
      · rw [if_neg a, if_neg (by omega)]; rfl
theorem mem_filterMap_of {g : WRow → Option WRow} {us : List WRow} {s : WRow} (h : s ∈ us.filterMap g) : ∃ t ∈ us, g t = some s := List.mem_filterMap.1 h
theorem rises_filter {g : WRow → Option WRow} {us : List WRow} (hg : ∀ t s, g t = some s → s.1 = t.1) (h : Rises us) : Rises (us.filterMap g) := by
  induction us with
  | nil => exact List.Pairwise.nil
  | cons t us ih =>
    have h2 := List.pairwise_cons.1 h
    rw [List.filterMap_cons]
    cases e : g t with
    | none => exact ih h2.2
    | some s =>
      refine List.pairwise_cons.2 ⟨fun v hv => ?_, ih h2.2⟩
      obtain ⟨u, hu, e2⟩ := mem_filterMap_of hv
      rw [hg t s e, hg u v e2]
      exact h2.1 u hu
theorem ddW_rows {q : Nat} {ts us : List WRow} (hu : ∀ t ∈ us, good t.1 = true ∧ t.1.length = q) : ∀ t ∈ ddW ts us, good t.1 = true ∧ t.1.length = q := fun t ht => by
  obtain ⟨s, hs, e⟩ := mem_filterMap_of ht
  rw [(ddG_some e).1]; exact hu s hs
theorem ddW_in {ts us : List WRow} : ∀ t ∈ ddW ts us, -1 ≤ t.2 ∧ t.2 ≤ 1 := fun t ht => by
  obtain ⟨s, hs, e⟩ := mem_filterMap_of ht
  exact ⟨(ddG_some e).2.2.2.1, (ddG_some e).2.2.2.2⟩
theorem ddW_len (ts us : List WRow) : (ddW ts us).length ≤ us.length := List.length_filterMap_le _ _
theorem ddW_take (ts us : List WRow) (k : Nat) (h : k < us.length) : ddW ts (us.take (k + 1)) = ddW ts (us.take k) ++ (ddG ts (wat us k)).toList := by
  unfold ddW
  rw [wtake_succ us k h, List.filterMap_append, List.filterMap_cons]
  cases ddG ts (wat us k) <;> simp
theorem ddW_wOf {ts us : List WRow} (hr : Rises us) (zs : List Int) : wOf (ddW ts us) zs = if ∃ t ∈ us, t.1 = zs then onceF (wOf ts zs + wOf us zs) - onceF (wOf ts zs) else 0 := by
  have hd : Rises (ddW ts us) := rises_filter (fun t s h => (ddG_some h).1) hr
  by_cases h : ∃ t ∈ us, t.1 = zs
  · rw [if_pos h]
    obtain ⟨t, ht, rfl⟩ := h
    rw [wOf_mem hr ht]
    cases e : ddG ts t with
    | none =>
      rw [ddG_none e]
      refine wOf_absent fun s hs e2 => ?_
      obtain ⟨u, hu, e3⟩ := mem_filterMap_of hs
      have : u.1 = t.1 := by rw [← (ddG_some e3).1, e2]
      have h3 := wOf_mem hr hu
      have h4 := wOf_mem hr ht
      rw [this] at h3
      have : u = t := by
        refine Prod.ext this ?_
        rw [← h3, ← h4]
      rw [this, e] at e3
      cases e3
    | some s =>
      have hm : s ∈ ddW ts us := List.mem_filterMap.2 ⟨t, ht, e⟩
      have := wOf_mem hd hm
      rw [(ddG_some e).1] at this
      rw [this, (ddG_some e).2.1]
  · rw [if_neg h]
    refine wOf_absent fun s hs e => h ?_
    obtain ⟨u, hu, e3⟩ := mem_filterMap_of hs
    exact ⟨u, hu, by rw [← (ddG_some e3).1, e]⟩

/-- What the changed map tells, whatever keys came with nothing. -/
theorem tells_dd {q : Nat} {f f' : List Int → Int} {ts us : List WRow} {ks : List (List Int)} (h : Tells q f ts) (h' : Tells q f' us) (hall : ∀ zs, good zs = true → zs.length = q → raised zs ∉ ks → f' (raised zs) = 0) :
    Tells q (fun x => if x ∈ ks then onceF (f x + f' x) - onceF (f x) else 0) (ddW ts us) where
  rises := rises_filter (fun t s h => (ddG_some h).1) h'.rises
  noZero := fun t ht => by obtain ⟨s, hs, e⟩ := mem_filterMap_of ht; exact (ddG_some e).2.2.1
  rows := ddW_rows h'.rows
  weight := fun zs hg hl => by
    rw [ddW_wOf h'.rises]
    have e1 := h.weight zs hg hl
    have e2 := h'.weight zs hg hl
    by_cases hk : raised zs ∈ ks
    · simp only [if_pos hk]
      by_cases hm : ∃ t ∈ us, t.1 = zs
      · rw [if_pos hm, e1, e2]
      · rw [if_neg hm]
        have h0 : wOf us zs = 0 := wOf_absent fun t ht e => hm ⟨t, ht, e⟩
        rw [← e2, h0, Int.add_zero, Int.sub_self]
    · simp only [if_neg hk]
      have h0 := hall zs hg hl hk
      rw [if_neg]
      rintro ⟨t, ht, rfl⟩
      have := wOf_mem h'.rises ht
      rw [e2, h0] at this
      exact h'.noZero t ht this.symm

end Go.Proofs.Ytmkhdocjabflkaa

/- Plain: a table's rows, scaled. -/
namespace Go.Proofs.Ytmkhdocjabflkaa

def scaleW (ts : List WRow) (t : Int) : List WRow := if t = 0 then [] else ts.map fun s => (s.1, t * s.2)

end Go.Proofs.Ytmkhdocjabflkaa

/- Plain: lists of rows within bounds; sums over keys. -/
namespace Go.Proofs.Ytmkhdocjabflkaa

theorem mul_in {x y B C : Int} (h1 : -B ≤ x) (h2 : x ≤ B) (h3 : -C ≤ y) (h4 : y ≤ C) : -(B * C) ≤ x * y ∧ x * y ≤ B * C := by
  have a := Int.mul_nonneg (show 0 ≤ B - x by omega) (show 0 ≤ C + y by omega)
  have b := Int.mul_nonneg (show 0 ≤ B + x by omega) (show 0 ≤ C - y by omega)
  have c := Int.mul_nonneg (show 0 ≤ B - x by omega) (show 0 ≤ C - y by omega)
  have d := Int.mul_nonneg (show 0 ≤ B + x by omega) (show 0 ≤ C + y by omega)
  simp only [Int.sub_mul, Int.add_mul, Int.mul_sub, Int.mul_add] at a b c d
  constructor <;> omega

/-- Rows that rise, without noughts, with so many cells, weights within a bound. -/
structure Lst (q N : Nat) (B : Int) (xs : List WRow) : Prop where
  len : xs.length ≤ N
  rises : Rises xs
  noZero : NoZero xs
  rows : ∀ t ∈ xs, good t.1 = true ∧ t.1.length = q
  within : ∀ t ∈ xs, -B ≤ t.2 ∧ t.2 ≤ B

section
variable {q N N' : Nat} {B B' : Int} {xs ys : List WRow}
theorem Lst.nil (q : Nat) : Lst q 0 0 [] := ⟨Nat.le_refl _, List.Pairwise.nil, fun t h => (by cases h), fun t h => (by cases h), fun t h => (by cases h)⟩
theorem Lst.mono (h : Lst q N B xs) (hN : N ≤ N') (hB : B ≤ B') : Lst q N' B' xs := ⟨Nat.le_trans h.len hN, h.rises, h.noZero, h.rows, fun t ht => by have := h.within t ht; omega⟩
theorem goodT_lst (h : goodT q xs = true) : Lst q 60 1000000 xs :=
  ⟨goodT_len60 h, goodT_rises h, goodT_noZero h, goodT_mem h, fun t ht => (goodT_six h t ht).2⟩
theorem Lst.take (h : Lst q N B xs) (k : Nat) : Lst q N B (xs.take k) :=
  ⟨by rw [List.length_take]; have := h.len; omega, h.rises.sublist (List.take_sublist _ _), fun t ht => h.noZero t (List.mem_of_mem_take ht), fun t ht => h.rows t (List.mem_of_mem_take ht), fun t ht => h.within t (List.mem_of_mem_take ht)⟩
theorem Lst.six (h : Lst q N B xs) (h6 : q ≤ 6) : ∀ t ∈ xs, t.1.length ≤ 6 := fun t ht => by have := (h.rows t ht).2; omega
theorem Lst.put (h : Lst q N B xs) (k : Lst q N' B' ys) (h0 : 0 ≤ B) (h0' : 0 ≤ B') : Lst q (N + N') (B + B') (putAll xs ys) where
  len := by have := putAll_len ys xs; have := h.len; have := k.len; omega
  rises := putAll_rises h.rises
  noZero := putAll_nozero h.noZero
  rows := fun t ht => by
    rcases putAll_rows ht with ⟨s, hs, e⟩ | ⟨s, hs, e⟩
    · rw [← e]; exact h.rows s hs
    · rw [← e]; exact k.rows s hs
  within := fun t ht => by
    have hw := wOf_mem (putAll_rises (l := ys) h.rises) ht
    rw [putAll_wOf t.1 h.rises, sumW_rises k.rises] at hw
    have b1 := wOf_bound (zs := t.1) h0 h.within
    have b2 := wOf_bound (zs := t.1) h0' k.within
    omega
theorem Lst.neg (h : Lst q N B xs) : Lst q N B (scaleW xs (-1)) := by
  have e : scaleW xs (-1) = xs.map fun t => (t.1, -1 * t.2) := by unfold scaleW; rw [if_neg (by decide)]
  rw [e]
  refine ⟨by rw [List.length_map]; exact h.len, ?_, fun t ht => ?_, fun t ht => ?_, fun t ht => ?_⟩
  · unfold Rises; rw [List.pairwise_map]; exact h.rises
  · obtain ⟨s, hs, rfl⟩ := List.mem_map.1 ht
    have := h.noZero s hs
    show -1 * s.2 ≠ 0
    omega
  · obtain ⟨s, hs, rfl⟩ := List.mem_map.1 ht
    exact h.rows s hs
  · obtain ⟨s, hs, rfl⟩ := List.mem_map.1 ht
    have := h.within s hs
    show -B ≤ -1 * s.2 ∧ -1 * s.2 ≤ B
    omega
theorem Lst.tells (h : Lst q N B xs) {f : List Int → Int} (hf : ∀ zs, good zs = true → zs.length = q → wOf xs zs = f (raised zs)) : Tells q f xs := ⟨h.rises, h.noZero, h.rows, hf⟩
end
theorem Tells.lst {q : Nat} {f : List Int → Int} {xs : List WRow} {B : Int} (h : Tells q f xs) (hB : ∀ t ∈ xs, -B ≤ t.2 ∧ t.2 ≤ B) : Lst q xs.length B xs := ⟨Nat.le_refl _, h.rises, h.noZero, h.rows, hB⟩

/-- A sum over keys hangs on those alone that count. -/
theorem sum_perm {h : List Int → Int} {ks ks' : List (List Int)} (p : ks.Perm ks') : (ks.map h).sum = (ks'.map h).sum := by
  induction p with
  | nil => rfl
  | cons x _ ih => simp only [List.map_cons, List.sum_cons, ih]
  | swap x y l => simp only [List.map_cons, List.sum_cons]; omega
  | trans _ _ ih1 ih2 => rw [ih1, ih2]
theorem sum_filter (h : List Int → Int) (ks : List (List Int)) : (ks.map h).sum = ((ks.filter fun a => decide (h a ≠ 0)).map h).sum := by
  induction ks with
  | nil => rfl
  | cons a ks ih =>
    by_cases e : h a = 0
    · rw [List.filter_cons_of_neg (by simp [e]), List.map_cons, List.sum_cons, ih, e]; omega
    · rw [List.filter_cons_of_pos (by simp [e]), List.map_cons, List.sum_cons, List.map_cons, List.sum_cons, ih]
theorem sum_support {h : List Int → Int} {ks ks' : List (List Int)} (n : ks.Nodup) (n' : ks'.Nodup) (hs : ∀ a, h a ≠ 0 → (a ∈ ks ↔ a ∈ ks')) : (ks.map h).sum = (ks'.map h).sum := by
  rw [sum_filter h ks, sum_filter h ks']
  refine sum_perm ((List.perm_ext_iff_of_nodup (n.filter _) (n'.filter _)).2 fun a => ?_)
  simp only [List.mem_filter, decide_eq_true_eq]
  constructor
  · rintro ⟨h1, h2⟩; exact ⟨(hs a h2).1 h1, h2⟩
  · rintro ⟨h1, h2⟩; exact ⟨(hs a h2).2 h1, h2⟩

/-- A sum over a map's keys is one over the rows that it tells. -/
theorem sum_tells {q : Nat} {f : List Int → Int} {xs : List WRow} {ks : List (List Int)} (h : Tells q f xs) (hk : Keys q ks) (hn : ks.Nodup) (hz : ∀ zs, good zs = true → zs.length = q → raised zs ∉ ks → f (raised zs) = 0) (G : List Int → Int) :
    (ks.map fun a => f a * G a).sum = (xs.map fun t => t.2 * G (raised t.1)).sum := by
  have e : (xs.map fun t => t.2 * G (raised t.1)) = (xs.map fun t => raised t.1).map fun a => f a * G a := by
    rw [List.map_map]
    refine List.map_congr_left fun t ht => ?_
    show t.2 * G (raised t.1) = f (raised t.1) * G (raised t.1)
    rw [← h.weight t.1 (h.rows t ht).1 (h.rows t ht).2, wOf_mem h.rises ht]
  rw [e]
  refine sum_support hn ?_ fun a ha => ?_
  · unfold List.Nodup
    rw [List.pairwise_map]
    refine h.rises.imp_of_mem fun {s t} hs ht hc e => ?_
    exact cmp_ne hc (raised_inj (h.rows s hs).1 (h.rows t ht).1 e)
  · constructor
    · intro hm
      obtain ⟨zs, h1, h2, rfl⟩ := hk a hm
      have hf : f (raised zs) ≠ 0 := fun e => ha (by rw [e, Int.zero_mul])
      rw [← h.weight zs h1 h2] at hf
      exact List.mem_map.2 ⟨_, mem_wOf hf, rfl⟩
    · intro hm
      obtain ⟨t, ht, rfl⟩ := List.mem_map.1 hm
      refine Classical.byContradiction fun hno => ?_
      have := hz t.1 (h.rows t ht).1 (h.rows t ht).2 hno
      exact ha (by rw [this, Int.zero_mul])

end Go.Proofs.Ytmkhdocjabflkaa
