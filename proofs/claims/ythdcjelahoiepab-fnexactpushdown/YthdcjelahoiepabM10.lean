/- Several texts of one proof, in build order: JoinP, CheckP, ViewH, RepC. -/
import Derived.Test.YthdcjelahoiepabM7
import Derived.Test.YthdcjelahoiepabM8
import Derived.Test.YthdcjelahoiepabM9

/- Plain: what is joined of two lists of weighted rows. -/
namespace Go.Proofs.Ythdcjelahoiepab

def joinG (ps : List (List Int)) (t u : WRow) : Option WRow := if joinOk t.1 u.1 ps = true then some (joinAns t.1 u.1 ps, t.2 * u.2) else none
def joinL (xs ys : List WRow) (ps : List (List Int)) : List WRow := xs.flatMap fun t => ys.filterMap (joinG ps t)
def outJ (xs ys : List WRow) (ps : List (List Int)) (k : Nat) : Nat := (joinL (xs.take k) ys ps).length
theorem outJ_succ {xs ys : List WRow} {ps : List (List Int)} {k : Nat} (h : k < xs.length) : outJ xs ys ps (k + 1) = outJ xs ys ps k + (ys.filterMap (joinG ps (wat xs k))).length := by
  unfold outJ joinL
  rw [wtake_succ xs k h, List.flatMap_append, List.length_append]
  simp
theorem wsplit {xs : List WRow} {k : Nat} (h : k < xs.length) : xs = xs.take k ++ wat xs k :: xs.drop (k + 1) := by
  have h3 := (List.take_append_drop k xs).symm
  rw [List.drop_eq_getElem_cons h] at h3
  rw [show wat xs k = xs[k] by simp [wat, List.getD, h]]
  exact h3
theorem joinL_at {xs ys : List WRow} {ps : List (List Int)} {k j : Nat} (h : k < xs.length) (hj : j < (ys.filterMap (joinG ps (wat xs k))).length) :
    outJ xs ys ps k + j < (joinL xs ys ps).length ∧ wat (joinL xs ys ps) (outJ xs ys ps k + j) = wat (ys.filterMap (joinG ps (wat xs k))) j := by
  have e : joinL xs ys ps = joinL (xs.take k) ys ps ++ (ys.filterMap (joinG ps (wat xs k)) ++ joinL (xs.drop (k + 1)) ys ps) := by
    have h4 := congrArg (fun l => joinL l ys ps) (wsplit h)
    simp only [joinL, List.flatMap_append, List.flatMap_cons] at h4
    exact h4
  rw [e]
  unfold outJ
  generalize ys.filterMap (joinG ps (wat xs k)) = M at *
  refine ⟨by simp only [List.length_append]; omega, ?_⟩
  simp only [wat, List.getD]
  rw [List.getElem?_append_right (by omega), Nat.add_sub_cancel_left, List.getElem?_append_left hj]

/-- How many of so many columns are in no pair. -/
def leftN (cols : List Int) (k : Nat) : Nat := ((List.range k).filter fun (j : Nat) => !cols.contains (j : Int)).length
theorem leftN_skip (cols : List Int) (k : Nat) (h : cols.contains (k : Int) = true) : leftN cols (k + 1) = leftN cols k := by
  simp only [leftN, List.range_succ, List.filter_append, List.filter_cons, List.filter_nil, h, Bool.not_true, Bool.false_eq_true, if_false, List.append_nil]
theorem leftN_take (cols : List Int) (k : Nat) (h : cols.contains (k : Int) = false) : leftN cols (k + 1) = leftN cols k + 1 := by
  simp only [leftN, List.range_succ, List.filter_append, List.filter_cons, List.filter_nil, h, Bool.not_false, if_true, List.length_append, List.length_cons, List.length_nil]
theorem leftN_le (cols : List Int) (k : Nat) : leftN cols k ≤ k := by
  have := List.length_filter_le (fun j : Nat => !cols.contains (j : Int)) (List.range k)
  simpa [leftN] using this
theorem restTo_len (ys cols : List Int) (k : Nat) : (restTo ys cols k).length = leftN cols k := by simp [restTo, leftN]
theorem joinZ_len (xs ys cols : List Int) : (joinZ xs ys cols).length = xs.length + leftN cols ys.length := by rw [joinZ, List.length_append, restTo_len]

def joinC (p q : Int) (ps : List (List Int)) : Nat := p.toNat + leftN (side ps 1) q.toNat
def joinW (ts us : List WRow) (ps : List (List Int)) : List WRow := putAll [] (joinL ts us ps)
def joinB (p q : Int) (ts us : List WRow) (ps : List (List Int)) : Bool := goodT p ts && (goodT q us && (pairsOk ps p.toNat q.toNat && (decide (joinC p q ps ≤ 6) && goodT (joinC p q ps) (joinW ts us ps))))
section
variable {p q : Int} {ts us : List WRow} {ps : List (List Int)}
theorem joinB_a (h : goodT p ts = false) : joinB p q ts us ps = false := by simp [joinB, h]
theorem joinB_b (h : goodT q us = false) : joinB p q ts us ps = false := by simp [joinB, h]
theorem joinB_p (h : pairsOk ps p.toNat q.toNat = false) : joinB p q ts us ps = false := by simp [joinB, h]
theorem joinB_c (h : 6 < joinC p q ps) : joinB p q ts us ps = false := by
  have : decide (joinC p q ps ≤ 6) = false := by simp; omega
  simp [joinB, this]
theorem joinB_yes (h1 : goodT p ts = true) (h2 : goodT q us = true) (h3 : pairsOk ps p.toNat q.toNat = true) (h4 : joinC p q ps ≤ 6) : joinB p q ts us ps = goodT (joinC p q ps) (joinW ts us ps) := by simp [joinB, h1, h2, h3, h4]
theorem joinB_goodT (h : joinB p q ts us ps = true) : goodT (joinC p q ps) (joinW ts us ps) = true := by
  simp only [joinB, Bool.and_eq_true] at h
  exact h.2.2.2.2
end

theorem good_noughts' {q : Nat} (h : q ≤ 6) : good (List.replicate q 0) = true := by
  refine good_of (by simpa using h) fun k hk => ?_
  have : (List.replicate q (0 : Int)).getD k 0 = 0 := by
    rw [List.getD_eq_getElem?_getD, List.getElem?_replicate]; split <;> rfl
  rw [this]; omega
theorem pick_noughts (q : Nat) (cols : List Int) : pick (List.replicate q 0) cols = List.replicate cols.length 0 := by
  unfold pick
  rw [List.eq_replicate_iff]
  refine ⟨by simp, fun x hx => ?_⟩
  obtain ⟨c, _, rfl⟩ := List.mem_map.1 hx
  rw [List.getD_eq_getElem?_getD, List.getElem?_replicate]; split <;> rfl
theorem joinOk_noughts {p q : Nat} (hp : p ≤ 6) (hq : q ≤ 6) (ps : List (List Int)) : joinOk (List.replicate p 0) (List.replicate q 0) ps = (pairsOk ps p q && decide (joinC p q ps ≤ 6)) := by
  unfold joinOk
  rw [good_noughts' hp, good_noughts' hq, pick_noughts, pick_noughts, side_length, side_length, joinZ_len, List.length_replicate, List.length_replicate, decide_eq_true rfl]
  simp [joinC]
  rfl
theorem joinAns_noughts {p q : Nat} {ps : List (List Int)} (h : joinOk (List.replicate p 0) (List.replicate q 0) ps = true) : (joinAns (List.replicate p 0) (List.replicate q 0) ps).length = joinC p q ps := by
  unfold joinAns
  rw [if_pos h, joinZ_len]
  simp [joinC]

theorem prod_in {x y : Int} (h1 : -1000000 ≤ x) (h2 : x ≤ 1000000) (h3 : -1000000 ≤ y) (h4 : y ≤ 1000000) : -1000000000000 ≤ x * y ∧ x * y ≤ 1000000000000 := by
  have a := Int.mul_nonneg (show 0 ≤ 1000000 - x by omega) (show 0 ≤ 1000000 + y by omega)
  have b := Int.mul_nonneg (show 0 ≤ 1000000 + x by omega) (show 0 ≤ 1000000 - y by omega)
  have c := Int.mul_nonneg (show 0 ≤ 1000000 - x by omega) (show 0 ≤ 1000000 - y by omega)
  have d := Int.mul_nonneg (show 0 ≤ 1000000 + x by omega) (show 0 ≤ 1000000 + y by omega)
  simp only [Int.sub_mul, Int.add_mul, Int.mul_sub, Int.mul_add] at a b c d
  constructor <;> omega
theorem prod_wrap {x y : Int} (h1 : -1000000 ≤ x) (h2 : x ≤ 1000000) (h3 : -1000000 ≤ y) (h4 : y ≤ 1000000) : IntKind.i64.wrap (x * y) = x * y := by
  have := prod_in h1 h2 h3 h4
  exact IntWalk.i64_in _ (by omega)

theorem prod_wrap64 {x y : Int} (h1 : -1000000 ≤ x) (h2 : x ≤ 1000000) (h3 : -1000000 ≤ y) (h4 : y ≤ 1000000) : Go.RowKit.wrap64 (x * y) = x * y := by
  have := prod_in h1 h2 h3 h4
  unfold Go.RowKit.wrap64; omega

theorem joinG_some {ps : List (List Int)} {t u v : WRow} (h : joinG ps t u = some v) : joinOk t.1 u.1 ps = true ∧ v = (joinZ t.1 u.1 (side ps 1), t.2 * u.2) := by
  unfold joinG at h
  split at h
  · rename_i h1
    cases h
    exact ⟨h1, by rw [joinAns, if_pos h1]⟩
  · cases h
theorem joinL_mem {xs ys : List WRow} {ps : List (List Int)} {t : WRow} (h : t ∈ joinL xs ys ps) : ∃ a ∈ xs, ∃ b ∈ ys, joinG ps a b = some t := by
  unfold joinL at h
  obtain ⟨a, ha, h1⟩ := List.mem_flatMap.1 h
  obtain ⟨b, hb, h2⟩ := List.mem_filterMap.1 h1
  exact ⟨a, ha, b, hb, h2⟩
theorem joinG_row {p q : Nat} {ts us : List WRow} {ps : List (List Int)} (h : goodT p ts = true) (k : goodT q us = true) {a b t : WRow} (ha : a ∈ ts) (hb : b ∈ us) (hg : joinG ps a b = some t) :
    good t.1 = true ∧ t.1.length = joinC p q ps ∧ -1000000000000 ≤ t.2 ∧ t.2 ≤ 1000000000000 := by
  obtain ⟨h1, rfl⟩ := joinG_some hg
  have ga := goodT_mem h a ha
  have gb := goodT_mem k b hb
  have wa := (goodL_mem (goodL_of_goodT h) a ha).2.2
  have wb := (goodL_mem (goodL_of_goodT k) b hb).2.2
  have hj : (joinZ a.1 b.1 (side ps 1)).length ≤ 6 := by
    simp only [joinOk, Bool.and_eq_true, decide_eq_true_eq] at h1
    exact h1.2
  refine ⟨?_, ?_, prod_in wa.1 wa.2 wb.1 wb.2⟩
  · show good (joinZ a.1 b.1 (side ps 1)) = true
    rw [good_joinZ ga.1 gb.1, decide_eq_true hj]
  · show (joinZ a.1 b.1 (side ps 1)).length = _
    rw [joinZ_len, ga.2, gb.2]; simp [joinC]
theorem joinL_rows {p q : Nat} {ts us : List WRow} {ps : List (List Int)} (h : goodT p ts = true) (k : goodT q us = true) : ∀ t ∈ joinL ts us ps, good t.1 = true ∧ t.1.length = joinC p q ps ∧ -1000000000000 ≤ t.2 ∧ t.2 ≤ 1000000000000 := fun t ht => by
  obtain ⟨a, ha, b, hb, hg⟩ := joinL_mem ht
  exact joinG_row h k ha hb hg
theorem joinL_len (xs ys : List WRow) (ps : List (List Int)) : (joinL xs ys ps).length ≤ xs.length * ys.length := by
  unfold joinL
  induction xs with
  | nil => simp
  | cons t xs ih =>
    rw [List.flatMap_cons, List.length_append, List.length_cons, Nat.succ_mul]
    have := List.length_filterMap_le (joinG ps t) ys
    omega
theorem tells_join {p q : Nat} {ts us : List WRow} {ps : List (List Int)} (h : goodT p ts = true) (k : goodT q us = true) : Tells (joinC p q ps) (sumAt (joinL ts us ps) (joinL ts us ps).length 1) (joinW ts us ps) :=
  tells_put List.Pairwise.nil (fun t ht => by cases ht) (fun t ht => by cases ht) (fun t ht => by have := joinL_rows h k t ht; exact ⟨this.1, this.2.1⟩)
    fun zs h1 _ => by rw [sumAt_sumW rfl 1 (fun t ht => (joinL_rows h k t ht).1) h1, wOf_nil]; omega

/-- What has come of the join when k rows of the one are through and j of the other with the next. -/
def accJ (ts us : List WRow) (ps : List (List Int)) (k j : Nat) : List WRow := joinL (ts.take k) us ps ++ (us.take j).filterMap (joinG ps (wat ts k))
section
variable {ts us : List WRow} {ps : List (List Int)} {k j : Nat}
theorem accJ_zero : accJ ts us ps k 0 = joinL (ts.take k) us ps := by simp [accJ]
theorem accJ_some (hj : j < us.length) {v : WRow} (h : joinG ps (wat ts k) (wat us j) = some v) : putAll [] (accJ ts us ps k (j + 1)) = putW (putAll [] (accJ ts us ps k j)) v.1 v.2 := by
  have e : accJ ts us ps k (j + 1) = accJ ts us ps k j ++ [v] := by
    unfold accJ
    rw [wtake_succ us j hj, List.filterMap_append, List.filterMap_cons, h, List.append_assoc]
    rfl
  rw [e, putAll_snoc]
theorem accJ_none (hj : j < us.length) (h : joinG ps (wat ts k) (wat us j) = none) : accJ ts us ps k (j + 1) = accJ ts us ps k j := by
  unfold accJ
  rw [wtake_succ us j hj, List.filterMap_append, List.filterMap_cons, h]
  simp
theorem accJ_all (hk : k < ts.length) : accJ ts us ps k us.length = joinL (ts.take (k + 1)) us ps := by
  unfold accJ joinL
  rw [wtake_succ ts k hk, List.flatMap_append, List.take_length]
  simp
theorem accJ_len (h1 : ts.length ≤ 60) (h2 : us.length ≤ 60) (hk : k < ts.length) : (accJ ts us ps k j).length ≤ 3600 := by
  unfold accJ
  rw [List.length_append]
  have a := joinL_len (ts.take k) us ps
  have b := List.length_filterMap_le (joinG ps (wat ts k)) (us.take j)
  rw [List.length_take] at a b
  have c : min k ts.length * us.length ≤ 59 * 60 := Nat.mul_le_mul (by omega) h2
  omega
theorem accJ_row {p q : Nat} (h : goodT p ts = true) (g : goodT q us = true) (hk : k < ts.length) : ∀ t ∈ accJ ts us ps k j, good t.1 = true ∧ t.1.length = joinC p q ps ∧ -1000000000000 ≤ t.2 ∧ t.2 ≤ 1000000000000 := fun t ht => by
  rcases List.mem_append.1 ht with h1 | h1
  · obtain ⟨a, ha, b, hb, hg⟩ := joinL_mem h1
    exact joinG_row h g (List.mem_of_mem_take ha) hb hg
  · obtain ⟨b, hb, hg⟩ := List.mem_filterMap.1 h1
    exact joinG_row h g (wat_mem hk) (List.mem_of_mem_take hb) hg
end

theorem putAll_in' {l : List WRow} {M : Int} (hM : 0 ≤ M) (hl : ∀ t ∈ l, t.1.length ≤ 6 ∧ -M ≤ t.2 ∧ t.2 ≤ M) : ∀ t ∈ putAll [] l, t.1.length ≤ 6 ∧ -(M * l.length) ≤ t.2 ∧ t.2 ≤ M * l.length := fun t h => by
  have hr : Rises [] := List.Pairwise.nil
  have h6 : t.1.length ≤ 6 := by
    rcases putAll_rows h with ⟨s, hs, e⟩ | ⟨s, hs, e⟩
    · cases hs
    · rw [← e]; exact (hl s hs).1
  have hw := wOf_mem (putAll_rises (l := l) hr) h
  rw [putAll_wOf t.1 hr] at hw
  have b2 := sumW_bound (zs := t.1) hM (fun s hs => (hl s hs).2)
  have b0 : wOf [] t.1 = 0 := rfl
  omega

/-- All that a walk of the inner loop asks of them. -/
theorem accJ_pack {p q : Nat} {ts us : List WRow} {ps : List (List Int)} {k n' : Nat} (h : goodT p ts = true) (g : goodT q us = true) (hk : k < ts.length) (hn' : us.length = n') :
    ∃ AC : Nat → List WRow, AC 0 = putAll [] (joinL (ts.take k) us ps) ∧ (∀ j v, j < n' → joinG ps (wat ts k) (wat us j) = some v → AC (j + 1) = putW (AC j) v.1 v.2) ∧ (∀ j, j < n' → joinG ps (wat ts k) (wat us j) = none → AC (j + 1) = AC j) ∧
      AC n' = putAll [] (joinL (ts.take (k + 1)) us ps) ∧ ∀ j, (AC j).length ≤ 3600 ∧ ∀ i, i < (AC j).length → (wat (AC j) i).1.length ≤ 6 ∧ -4000000000000000000 ≤ (wat (AC j) i).2 ∧ (wat (AC j) i).2 ≤ 4000000000000000000 := by
  refine ⟨fun j => putAll [] (accJ ts us ps k j), by simp only [accJ_zero], fun j v hj hv => accJ_some (by omega) hv, fun j hj hv => by simp only [accJ_none (show j < us.length by omega) hv], by subst hn'; simp only [accJ_all hk], fun j => ?_⟩
  have hl := accJ_len (ps := ps) (j := j) (goodT_len60 h) (goodT_len60 g) hk
  refine ⟨?_, fun i hi => ?_⟩
  · have := putAll_len (accJ ts us ps k j) []
    simp only [List.length_nil] at this
    show (putAll [] (accJ ts us ps k j)).length ≤ 3600
    omega
  · have := at_of_mem (putAll_in' (M := 1000000000000) (by omega) (fun t ht => by have := accJ_row (ps := ps) h g hk t ht; exact ⟨good_len this.1, this.2.2⟩)) i hi
    refine ⟨this.1, ?_, ?_⟩ <;> (dsimp only; omega)

/-- The model's join of two rows, where all is good. -/
theorem l1B_joinOk {xs ys : List Int} {ps : List (List Int)} (hx : good xs = true) (hy : good ys = true) (hp : pairsOk ps xs.length ys.length = true) : l1B xs ys ps = joinOk xs ys ps := by
  simp [joinOk, l1B, hx, hy, hp]
theorem l1Z_joinAns {xs ys : List Int} {ps : List (List Int)} (h : joinOk xs ys ps = true) : l1Z xs ys ps = joinAns xs ys ps := by
  have : pick xs (side ps 0) = pick ys (side ps 1) := by simp only [joinOk, Bool.and_eq_true, decide_eq_true_eq] at h; exact h.1.2
  simp [joinAns, h, l1Z, this]

end Go.Proofs.Ythdcjelahoiepab

/- Plain: how many columns the parts of a view have. -/
namespace Go.Proofs.Ythdcjelahoiepab

def numAt (l : List Int) (i : Int) : Option Int := if 0 ≤ i ∧ i < l.length then l[i.toNat]? else none
theorem numAt_no {l : List Int} {i : Int} (h : i < 0 ∨ (l.length : Int) ≤ i) : numAt l i = none := if_neg (by omega)
theorem numAt_yes {l : List Int} {i : Nat} (h : i < l.length) : numAt l i = some (l.getD i 0) := by
  rw [numAt, if_pos (by omega)]; simp [List.getD, h]
theorem numAt_some {l : List Int} {i z : Int} (h : numAt l i = some z) : ∃ k : Nat, i = k ∧ k < l.length ∧ l.getD k 0 = z ∧ l[k]? = some z := by
  unfold numAt at h
  split at h
  · rename_i h1
    refine ⟨i.toNat, by omega, by omega, ?_, h⟩
    simp [List.getD, h]
  · cases h
theorem numAt_mem {l : List Int} {i z : Int} (h : numAt l i = some z) : z ∈ l := by
  obtain ⟨k, _, hk, _, h2⟩ := numAt_some h
  exact List.mem_of_getElem? h2

/-- What a part's kind has not is not there. -/
def noMore (x : PartD) : Bool :=
  (decide (x.K = 2) || decide (x.ts.length = 0)) && ((decide (x.K = 3) || decide (x.cs.length = 0)) && ((decide (x.K = 4) || decide (x.ps.length = 0)) && (decide (x.K = 4 ∨ x.K = 5 ∨ x.K = 6) || decide (x.B = 0))))

def widthP (ss ah : List Int) (x : PartD) : Option Int :=
  if x.K = 1 then numAt ss x.A
  else if x.K = 2 then (numAt ah x.A).bind fun a => if goodEs a x.ts = true then some a else none
  else if x.K = 3 then (numAt ah x.A).bind fun a => if colsOk x.cs a.toNat = true then some (x.cs.length : Int) else none
  else if x.K = 4 then (numAt ah x.A).bind fun a => (numAt ah x.B).bind fun b => if pairsOk x.ps a.toNat b.toNat = true ∧ joinC a b x.ps ≤ 6 then some (joinC a b x.ps : Int) else none
  else if x.K = 5 ∨ x.K = 6 then (numAt ah x.A).bind fun a => (numAt ah x.B).bind fun b => if a = b then some a else none
  else if x.K = 7 then numAt ah x.A
  else none
/-- How many columns a part has, where all is right. -/
def partW (ss ah : List Int) (x : PartD) : Option Int := if noMore x = true then widthP ss ah x else none
def checkTo (ss : List Int) (xs : List PartD) : Nat → Option (List Int)
  | 0 => some []
  | k + 1 => (checkTo ss xs k).bind fun ah => (xs[k]?).bind fun x => (partW ss ah x).map fun n => ah ++ [n]
def srcOk (ss : List Int) : Bool := decide (1 ≤ ss.length) && (decide (ss.length ≤ 4) && ss.all inc)
def checkV (v : ViewD) : Option (List Int) := if srcOk v.1 = true ∧ 1 ≤ v.2.length ∧ v.2.length ≤ 12 then checkTo v.1 v.2 v.2.length else none

theorem widthP_inc {ss ah : List Int} {x : PartD} {n : Int} (hs : ss.all inc = true) (ha : ah.all inc = true) (h : widthP ss ah x = some n) : inc n = true := by
  have S : ∀ z ∈ ss, inc z = true := List.all_eq_true.1 hs
  have H : ∀ z ∈ ah, inc z = true := List.all_eq_true.1 ha
  unfold widthP at h
  split at h
  · exact S _ (numAt_mem h)
  split at h
  · obtain ⟨a, h1, h2⟩ := Option.bind_eq_some_iff.1 h
    split at h2
    · cases h2; exact H _ (numAt_mem h1)
    · cases h2
  split at h
  · obtain ⟨a, h1, h2⟩ := Option.bind_eq_some_iff.1 h
    split at h2
    · rename_i hc
      cases h2
      simp only [colsOk, Bool.and_eq_true, decide_eq_true_eq] at hc
      simp [inc]; omega
    · cases h2
  split at h
  · obtain ⟨a, h1, h2⟩ := Option.bind_eq_some_iff.1 h
    obtain ⟨b, h3, h4⟩ := Option.bind_eq_some_iff.1 h2
    split at h4
    · rename_i hc
      cases h4
      simp [inc]; omega
    · cases h4
  split at h
  · obtain ⟨a, h1, h2⟩ := Option.bind_eq_some_iff.1 h
    obtain ⟨b, h3, h4⟩ := Option.bind_eq_some_iff.1 h2
    split at h4
    · cases h4; exact H _ (numAt_mem h1)
    · cases h4
  split at h
  · exact H _ (numAt_mem h)
  · cases h
theorem partW_inc {ss ah : List Int} {x : PartD} {n : Int} (hs : ss.all inc = true) (ha : ah.all inc = true) (h : partW ss ah x = some n) : inc n = true := by
  unfold partW at h
  split at h
  · exact widthP_inc hs ha h
  · cases h
theorem checkTo_some {ss : List Int} {xs : List PartD} (hs : ss.all inc = true) : ∀ {k : Nat} {ah : List Int}, checkTo ss xs k = some ah → ah.length = k ∧ ah.all inc = true
  | 0, ah, h => by cases h; exact ⟨rfl, rfl⟩
  | k + 1, ah, h => by
    obtain ⟨a, h1, h2⟩ := Option.bind_eq_some_iff.1 h
    obtain ⟨x, h3, h4⟩ := Option.bind_eq_some_iff.1 h2
    obtain ⟨n, h5, rfl⟩ := Option.map_eq_some_iff.1 h4
    have ih := checkTo_some hs h1
    refine ⟨by simp [ih.1], ?_⟩
    rw [List.all_append, ih.2]
    simp [partW_inc hs ih.2 h5]
theorem checkTo_step {ss : List Int} {xs : List PartD} {k : Nat} {ah : List Int} {x : PartD} (h : checkTo ss xs k = some ah) (hx : xs[k]? = some x) : checkTo ss xs (k + 1) = (partW ss ah x).map fun n => ah ++ [n] := by
  rw [checkTo, h]; simp [hx]
theorem checkTo_none {ss : List Int} {xs : List PartD} {k : Nat} (h : checkTo ss xs k = none) : ∀ {n : Nat}, k ≤ n → checkTo ss xs n = none
  | n, hn => by
    obtain ⟨d, rfl⟩ := Nat.le.dest hn
    clear hn
    induction d with
    | zero => exact h
    | succ d ih => rw [show k + (d + 1) = (k + d) + 1 from rfl, checkTo, ih]; rfl
theorem checkV_src {v : ViewD} (h : srcOk v.1 = false) : checkV v = none := if_neg (by simp [h])
theorem checkV_len {v : ViewD} (h : ¬ (1 ≤ v.2.length ∧ v.2.length ≤ 12)) : checkV v = none := if_neg (fun e => h e.2)
theorem checkV_to {v : ViewD} {n : Nat} (h : srcOk v.1 = true) (hn : v.2.length = n) (h1 : 1 ≤ n) (h2 : n ≤ 12) : checkV v = checkTo v.1 v.2 n := by subst hn; exact if_pos ⟨h, h1, h2⟩
theorem srcOk_all {ss : List Int} (h : srcOk ss = true) : ss.all inc = true := by
  simp only [srcOk, Bool.and_eq_true] at h; exact h.2.2
theorem checkV_good {v : ViewD} {ah : List Int} (h : checkV v = some ah) : srcOk v.1 = true ∧ 1 ≤ v.2.length ∧ v.2.length ≤ 12 ∧ ah.length = v.2.length ∧ ah.all inc = true ∧ checkTo v.1 v.2 v.2.length = some ah := by
  unfold checkV at h
  split at h
  · rename_i h1
    have := checkTo_some (srcOk_all h1.1) h
    exact ⟨h1.1, h1.2.1, h1.2.2, this.1, this.2, h⟩
  · cases h

/-- What CheckView answers. -/
def ckB (v : ViewD) : Bool := (checkV v).isSome
def ckZ (v : ViewD) : List Int := (checkV v).getD []
theorem ck_none {v : ViewD} (h : checkV v = none) : ckB v = false ∧ ckZ v = [] := by simp [ckB, ckZ, h]
theorem ck_some {v : ViewD} {ah : List Int} (h : checkV v = some ah) : ckB v = true ∧ ckZ v = ah := by simp [ckB, ckZ, h]
theorem ckZ_len (v : ViewD) : (ckZ v).length ≤ 12 := by
  cases h : checkV v with
  | none => rw [(ck_none h).2]; simp
  | some ah => rw [(ck_some h).2]; have := checkV_good h; omega

end Go.Proofs.Ythdcjelahoiepab

/- Contracts of the laws' helpers over parts and views: szPart, szPartS, szView. -/
namespace Go.Proofs.Ythdcjelahoiepab
open Go.RowKit

theorem AtE.below2 {w w' : World} {a : Option Addr} {es : List Tst} (h : AtE w a es) (hb : Below w.heap.size w w') : AtE w' a es := At.below h hb

set_option maxRecDepth 100000 in
set_option maxHeartbeats 2000000 in
theorem szPart_any (cs : List Value) (x : PartD) (l : Int) (w : World) (h0 : 0 ≤ l) (h1 : l ≤ 1048576) (h : RPart.At w cs x) :
    Calls Try.prog 31 #[.agg cs.toArray, .int .i64 l] w fun e w' => e = .returned (.int .i64 (leftOf l (pcost x))) ∧ Below w.heap.size w w' := by
  obtain ⟨ta, tn, tc, ca, cn, cc, pa, pn, pc, rfl, ⟨t1, t2, t3⟩, ⟨u1, u2, u3⟩, ⟨v1, v2, v3⟩⟩ := RPart.at_open h
  have hp : pcost x = tn + cn + (pn + tot x.ps pn) := by unfold pcost; rw [t1, u1, v1]
  rw [hp]
  clear h hp
  obtain ⟨K, A, B, ts, zs, ps⟩ := x
  simp only [PartD.K, PartD.A, PartD.B, PartD.ts, PartD.cs, PartD.ps] at *
  obtain ⟨W, hW⟩ : ∃ W, W = w.alloc (.cells #[.int .i64 K, .int .i64 A, .int .i64 B, .slice ta tn tc, .slice ca cn cc, .slice pa pn pc] 64) := ⟨_, rfl⟩
  have B0 : Below w.heap.size w W := by rw [hW]; exact (Below.refl _ _).alloc (Nat.le_refl _) _
  have q4 : W.cell? ⟨w.heap.size, 4, none⟩ = some (.slice ca cn cc) := by rw [hW]; simp
  have q5 : W.cell? ⟨w.heap.size, 5, none⟩ = some (.slice pa pn pc) := by rw [hW]; simp
  have T3 := Hid.mk (AtE.below t3 B0)
  have V3 := Hid.mk (AtS.below v3 B0)
  have V1 := Hid.mk v1
  have T1 := Hid.mk t1
  clear t3 u3 v3 v1 t1 u1
  by_cases c1 : l < tn
  · go_enter Try.func31, Try.ntmps31
    go_wp2_with fail
    rw [← hW]
    clear hW
    refine (szTestS_any ta tn tc ts l W T1.out t2 h0 h1 T3.out).mono ?_
    rintro e w1 ⟨rfl, hb1⟩
    rw [leftOf_no c1]
    go_wp2
    go_ret
    exact ⟨ret_int (leftOf_no (by omega)).symm, B0.trans (hb1.mono B0.size)⟩
  have d1 : ¬ l - (tn : Int) < 0 := by omega
  by_cases c2 : l - tn < cn
  · go_enter Try.func31, Try.ntmps31
    go_wp2_with fail
    rw [← hW]
    clear hW
    refine (szTestS_any ta tn tc ts l W T1.out t2 h0 h1 T3.out).mono ?_
    rintro e w1 ⟨rfl, hb1⟩
    rw [leftOf_yes (by omega)]
    have B1 := B0.trans (hb1.mono B0.size)
    have q4 := cell_later hb1 q4
    have HB := Hid.mk B1
    clear hb1 B0 B1
    go_wp2_with fail
    refine (szIntS_any ca cn cc (l - tn) w1 u2 (by omega) (by omega)).mono ?_
    rintro e w2 ⟨rfl, rfl⟩
    rw [if_pos (by omega)]
    go_wp2
    go_ret
    exact ⟨ret_int (leftOf_no (by omega)).symm, HB.out⟩
  have d2 : ¬ l - (tn : Int) - (cn : Int) < 0 := by omega
  by_cases c3 : l - tn - cn < ((pn + tot ps pn : Nat) : Int)
  · go_enter Try.func31, Try.ntmps31
    go_wp2_with fail
    rw [← hW]
    clear hW
    refine (szTestS_any ta tn tc ts l W T1.out t2 h0 h1 T3.out).mono ?_
    rintro e w1 ⟨rfl, hb1⟩
    rw [leftOf_yes (by omega)]
    have B1 := B0.trans (hb1.mono B0.size)
    have q4 := cell_later hb1 q4
    have q5 := cell_later hb1 q5
    have HB := Hid.mk B1
    have V4 := Hid.mk (V3.out.below hb1)
    clear hb1 B0 B1
    go_wp2_with fail
    refine (szIntS_any ca cn cc (l - tn) w1 u2 (by omega) (by omega)).mono ?_
    rintro e w2 ⟨rfl, rfl⟩
    rw [if_neg (by omega)]
    go_wp2_with fail
    refine (szIntSS_at pa pn pc ps (l - tn - cn) _ V1.out v2 (by omega) (by omega) V4.out).mono ?_
    rintro e w3 ⟨rfl, hb3⟩
    rw [leftOf_no (by omega)]
    go_wp2
    go_ret
    exact ⟨ret_int (leftOf_no (by omega)).symm, HB.out.trans (hb3.mono HB.out.size)⟩
  have d3 : ¬ l - (tn : Int) - (cn : Int) - (pn + tot ps pn : Nat) < 0 := by omega
  go_enter Try.func31, Try.ntmps31
  go_wp2_with fail
  rw [← hW]
  clear hW
  refine (szTestS_any ta tn tc ts l W T1.out t2 h0 h1 T3.out).mono ?_
  rintro e w1 ⟨rfl, hb1⟩
  rw [leftOf_yes (by omega)]
  have B1 := B0.trans (hb1.mono B0.size)
  have q4 := cell_later hb1 q4
  have q5 := cell_later hb1 q5
  have HB := Hid.mk B1
  have V4 := Hid.mk (V3.out.below hb1)
  clear hb1 B0 B1
  go_wp2_with fail
  refine (szIntS_any ca cn cc (l - tn) w1 u2 (by omega) (by omega)).mono ?_
  rintro e w2 ⟨rfl, rfl⟩
  rw [if_neg (by omega)]
  go_wp2_with fail
  refine (szIntSS_at pa pn pc ps (l - tn - cn) _ V1.out v2 (by omega) (by omega) V4.out).mono ?_
  rintro e w3 ⟨rfl, hb3⟩
  rw [leftOf_yes (by omega)]
  have d4 : ¬ l - (tn : Int) - (cn : Int) - ((pn : Int) + (tot ps pn : Nat)) < 0 := by omega
  go_wp2
  go_ret
  exact ⟨ret_int (by rw [leftOf_yes (by omega)]; omega), HB.out.trans (hb3.mono HB.out.size)⟩

set_option maxRecDepth 100000 in
set_option maxHeartbeats 2000000 in
theorem szPartS_any (a : Option Addr) (n c : Nat) (xs : List PartD) (l : Int) (w : World) (hz : xs.length = n) (hn : n ≤ 9223372036854775807) (h0 : 0 ≤ l) (h1 : l ≤ 1048576) (ha : AtSl RPart w a xs) :
    Calls Try.prog 15 #[.slice a n c, .int .i64 l] w fun e w' => e = .returned (.int .i64 (leftOf l (n + psum xs n : Nat))) ∧ Below w.heap.size w w' := by
  by_cases hb : l < n
  · have h' : l - (n : Int) < 0 := by omega
    go_enter Try.func15, Try.ntmps15
    go_wp2
    go_ret
    exact ⟨ret_int (leftOf_no (by omega)).symm, Below.refl _ _⟩
  have h' : ¬ l - (n : Int) < 0 := by omega
  by_cases hn0 : n = 0
  · subst hn0
    have ht : psum xs 0 = 0 := rfl
    go_enter Try.func15, Try.ntmps15
    go_wp2
    refine wp_loop_rounds 1 ?_
    rw [rounds_succ]
    go_wp2
    go_ret
    exact ⟨ret_int (by rw [ht, leftOf_yes (by omega)]; omega), Below.refl _ _⟩
  · go_enter Try.func15, Try.ntmps15
    go_wp2
    go_loopw [1, 5] (fun q i wr => ∃ (k : Nat) (r : Int), k ≤ n ∧ i = .int .i64 k ∧ q = .int .i64 r ∧ 0 ≤ r ∧ r ≤ 1048576 ∧ r + psum xs k = l - n ∧ Below w.heap.size w wr) (fun _ i _ => n - (intOf i).toNat)
    case atStart => exact ⟨0, l - n, Nat.zero_le _, rfl, rfl, by omega, by omega, by rw [psum_zero]; omega, Below.refl _ _⟩
    case round =>
      obtain ⟨k, r, hk, rfl, rfl, hr0, hr1, hr, hbw⟩ := hrel
      by_cases hlt : k < n
      · obtain ⟨b, off, rfl, hc⟩ := (ha.below hbw).each (by omega)
        obtain ⟨x, hx⟩ : ∃ x, xs[k]? = some x := ⟨_, List.getElem?_eq_getElem (by omega)⟩
        obtain ⟨cs, hcs, hat⟩ := hc k x hx
        have hts := psum_succ hx
        have htm := psum_mono xs (k + 1) n (by omega)
        have hopen := RPart.at_open hat
        obtain ⟨ta, tn, tc, ca, cn, cc, pa, pn, pc, rfl, _⟩ := hopen
        have g0 := hcs 0 _ rfl
        have g1 := hcs 1 _ rfl
        have g2 := hcs 2 _ rfl
        have g3 := hcs 3 _ rfl
        have g4 := hcs 4 _ rfl
        have g5 := hcs 5 _ rfl
        rw [RPart_k] at g0 g1 g2 g3 g4 g5
        rw [Nat.add_zero] at g0
        have HAT := Hid.mk hat
        have HR := Hid.mk hr
        have HT := Hid.mk hts
        have HM := Hid.mk htm
        have hki : (k : Int) < (n : Int) := by omega
        clear hat hc hr hts ha htm hx hcs
        generalize x.K = K at *
        generalize x.A = A at *
        generalize x.B = B at *
        by_cases hfit : r < pcost x
        · go_wp2_with fail
          refine (szPart_any _ x r wr hr0 hr1 HAT.out).mono ?_
          rintro e w' ⟨rfl, hb'⟩
          rw [leftOf_no hfit]
          go_wp2
          go_ret
          exact ⟨ret_int (leftOf_no (by have := HR.out; have := HT.out; have := HM.out; omega)).symm, hbw.trans (hb'.mono hbw.size)⟩
        · have hd : ¬ r - (pcost x : Int) < 0 := by omega
          go_wp2_with fail
          refine (szPart_any _ x r wr hr0 hr1 HAT.out).mono ?_
          rintro e w' ⟨rfl, hb'⟩
          rw [leftOf_yes (by omega)]
          go_wp2
          go_roundw
          case rel => exact ⟨k + 1, r - pcost x, by omega, by go_num, rfl, by omega, by omega, by have := HR.out; have := HT.out; omega, hbw.trans (hb'.mono hbw.size)⟩
          case measure => simp [intOf]; omega
      · obtain rfl : k = n := by omega
        have HR := Hid.mk hr
        clear hr
        go_wp2
        go_ret
        exact ⟨ret_int (by have := HR.out; rw [leftOf_yes (by omega)]; omega), hbw⟩

set_option maxRecDepth 100000 in
set_option maxHeartbeats 1000000 in
theorem szView_any (sa : Option Addr) (sn sc : Nat) (pa : Option Addr) (pn pc : Nat) (ss : List Int) (xs : List PartD) (l : Int) (w : World) (hs : ss.length = sn) (hsn : sn ≤ 9223372036854775807) (hz : xs.length = pn) (hn : pn ≤ 9223372036854775807) (h0 : 0 ≤ l) (h1 : l ≤ 1048576) (ha : AtSl RPart w pa xs) :
    Calls Try.prog 5 #[.agg #[.slice sa sn sc, .slice pa pn pc], .int .i64 l] w fun e w' => e = .returned (.int .i64 (leftOf l (vcost (ss, xs)))) ∧ Below w.heap.size w w' := by
  have hv : vcost (ss, xs) = sn + (pn + psum xs pn) := by unfold vcost; simp only; rw [hs, hz]
  rw [hv]
  clear hv
  obtain ⟨W, hW⟩ : ∃ W, W = w.alloc (.cells #[.slice sa sn sc, .slice pa pn pc] 25) := ⟨_, rfl⟩
  have B0 : Below w.heap.size w W := by rw [hW]; exact (Below.refl _ _).alloc (Nat.le_refl _) _
  have q1 : W.cell? ⟨w.heap.size, 1, none⟩ = some (.slice pa pn pc) := by rw [hW]; simp
  have HA := Hid.mk (ha.below B0)
  have HZ := Hid.mk hz
  clear ha hz hs
  by_cases c1 : l < sn
  · go_enter Try.func5, Try.ntmps5
    go_wp2_with fail
    rw [← hW]
    clear hW
    refine (szIntS_any sa sn sc l W hsn h0 h1).mono ?_
    rintro e w2 ⟨rfl, rfl⟩
    rw [if_pos c1]
    go_wp2
    go_ret
    exact ⟨ret_int (leftOf_no (by omega)).symm, B0⟩
  by_cases c2 : l - sn < ((pn + psum xs pn : Nat) : Int)
  · go_enter Try.func5, Try.ntmps5
    have d1 : ¬ l - (sn : Int) < 0 := by omega
    go_wp2_with fail
    rw [← hW]
    clear hW
    refine (szIntS_any sa sn sc l W hsn h0 h1).mono ?_
    rintro e w2 ⟨rfl, rfl⟩
    rw [if_neg (by omega)]
    go_wp2_with fail
    refine (szPartS_any pa pn pc xs (l - sn) _ HZ.out hn (by omega) (by omega) HA.out).mono ?_
    rintro e w3 ⟨rfl, hb3⟩
    rw [leftOf_no (by omega)]
    go_wp2
    go_ret
    exact ⟨ret_int (leftOf_no (by omega)).symm, B0.trans (hb3.mono B0.size)⟩
  · obtain ⟨s, hs⟩ : ∃ s : Nat, pn + psum xs pn = s := ⟨_, rfl⟩
    rw [hs] at c2 ⊢
    have HS := Hid.mk hs
    clear hs
    go_enter Try.func5, Try.ntmps5
    have d1 : ¬ l - (sn : Int) < 0 := by omega
    have d2 : ¬ l - (sn : Int) - (s : Int) < 0 := by omega
    go_wp2_with fail
    rw [← hW]
    clear hW
    refine (szIntS_any sa sn sc l W hsn h0 h1).mono ?_
    rintro e w2 ⟨rfl, rfl⟩
    rw [if_neg (by omega)]
    go_wp2_with fail
    refine (szPartS_any pa pn pc xs (l - sn) _ HZ.out hn (by omega) (by omega) HA.out).mono ?_
    rintro e w3 ⟨rfl, hb3⟩
    rw [HS.out, leftOf_yes (by omega)]
    go_wp2
    go_ret
    exact ⟨ret_int (by rw [leftOf_yes (by omega)]; omega), B0.trans (hb3.mono B0.size)⟩

end Go.Proofs.Ythdcjelahoiepab

/- The laws' copies of slices of numbers, of tests, of slices of numbers, as things that are owned. -/
namespace Go.Proofs.Ythdcjelahoiepab
open Go.RowKit

theorem toInts_rep (a : Option Addr) (n c : Nat) (zs : List Int) (w : World) (hz : zs.length = n) (hn : n ≤ 1048576) (ha : At w a zs) :
    Calls Try.prog 17 #[.slice a n c] w fun e w' => ∃ g, e = .returned (.slice (some ⟨g, 0, none⟩) n n) ∧ RInts.Own w' (From w.heap.size w'.heap.size) [.slice (some ⟨g, 0, none⟩) n n] zs ∧ Below w.heap.size w w' :=
  (toIntS_any a n c zs w hz hn ha).mono fun _ _ ⟨h1, h2, h3⟩ => ⟨_, h1, RInts.of_owns hz (by omega) h2, h3⟩
theorem toTests_rep (a : Option Addr) (n c : Nat) (es : List Tst) (w : World) (hz : es.length = n) (hn : n ≤ 1048576) (ha : AtE w a es) :
    Calls Try.prog 50 #[.slice a n c] w fun e w' => ∃ g, e = .returned (.slice (some ⟨g, 0, none⟩) n n) ∧ RTests.Own w' (From w.heap.size w'.heap.size) [.slice (some ⟨g, 0, none⟩) n n] es ∧ Below w.heap.size w w' :=
  (toTestS_any a n c es w hz hn ha).mono fun _ _ ⟨h1, h2, h3⟩ => ⟨_, h1, RTests.own_iff.2 ⟨hz, by omega, owns_mono h2 (Nat.zero_le _), fun b hb => h2.lt b hb⟩, h3⟩
theorem toPairs_rep (a : Option Addr) (n c : Nat) (ps : List (List Int)) (w : World) (hz : ps.length = n) (hn : n ≤ 1048576) (hs : ∀ i, i < ps.length → (ps.getD i []).length ≤ 1048576) (ha : AtS w a ps) :
    Calls Try.prog 51 #[.slice a n c] w fun e w' => ∃ g, e = .returned (.slice (some ⟨g, 0, none⟩) n n) ∧ RPairs.Own w' (From w.heap.size w'.heap.size) [.slice (some ⟨g, 0, none⟩) n n] ps ∧ Below w.heap.size w w' :=
  (toIntSS_at a n c ps w hz hn hs ha).mono fun _ _ ⟨g, h1, h2, h3⟩ => ⟨g, h1, RPairs.of_own h2 hn hs, h3⟩

end Go.Proofs.Ythdcjelahoiepab
