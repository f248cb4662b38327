/- Several texts of one proof, in build order: JoinP, JoinQ. -/
import Derived.Test.YtaaefdddibdenaaIterP
import Derived.Test.YtaaefdddibdenaaM15
import Derived.Test.YtaaefdddibdenaaM17
import Derived.Test.YtaaefdddibdenaaL2Put

/- Plain: what is joined of two lists of weighted rows. -/
namespace Go.Proofs.Ytaaefdddibdenaa

def joinG (ps : List (List Int)) (t u : WRow) : Option WRow := if joinOk t.1 u.1 ps = true then some (joinAns t.1 u.1 ps, t.2 * u.2) else none
def joinL (xs ys : List WRow) (ps : List (List Int)) : List WRow := xs.flatMap fun t => ys.filterMap (joinG ps t)
def outJ (xs ys : List WRow) (ps : List (List Int)) (k : Nat) : Nat := (joinL (xs.take k) ys ps).length
theorem outJ_succ {xs ys : List WRow} {ps : List (List Int)} {k : Nat} (h : k < xs.length) : outJ xs ys ps (k + 1) = outJ xs ys ps k + (ys.filterMap (joinG ps (wat xs k))).length := by
  unfold outJ joinL
  rw [wtake_succ xs k h, List.flatMap_append, List.length_append]
  simp
theorem wsplit {xs : List WRow} {k : Nat} (h : k < xs.length) : xs = xs.take k ++ wat xs k :: xs.drop (k + 1) := by
  have h3 := (List.take_append_drop k xs).symm
  rw [List.drop_eq_getElem_cons h] at h3
  rw [show wat xs k = xs[k] by simp [wat, List.getD, h]]
  exact h3
theorem joinL_at {xs ys : List WRow} {ps : List (List Int)} {k j : Nat} (h : k < xs.length) (hj : j < (ys.filterMap (joinG ps (wat xs k))).length) :
    outJ xs ys ps k + j < (joinL xs ys ps).length ∧ wat (joinL xs ys ps) (outJ xs ys ps k + j) = wat (ys.filterMap (joinG ps (wat xs k))) j := by
  have e : joinL xs ys ps = joinL (xs.take k) ys ps ++ (ys.filterMap (joinG ps (wat xs k)) ++ joinL (xs.drop (k + 1)) ys ps) := by
    have h4 := congrArg (fun l => joinL l ys ps) (wsplit h)
    simp only [joinL, List.flatMap_append, List.flatMap_cons] at h4
    exact h4
  rw [e]
  unfold outJ
  generalize ys.filterMap (joinG ps (wat xs k)) = M at *
  refine ⟨by simp only [List.length_append]; omega, ?_⟩
  simp only [wat, List.getD]
  rw [List.getElem?_append_right (by omega), Nat.add_sub_cancel_left, List.getElem?_append_left hj]

/-- How many of so many columns are in no pair. -/
def leftN (cols : List Int) (k : Nat) : Nat := ((List.range k).filter fun (j : Nat) => !cols.contains (j : Int)).length
theorem leftN_skip (cols : List Int) (k : Nat) (h : cols.contains (k : Int) = true) : leftN cols (k + 1) = leftN cols k := by
  simp only [leftN, List.range_succ, List.filter_append, List.filter_cons, List.filter_nil, h, Bool.not_true, Bool.false_eq_true, if_false, List.append_nil]
theorem leftN_take (cols : List Int) (k : Nat) (h : cols.contains (k : Int) = false) : leftN cols (k + 1) = leftN cols k + 1 := by
  simp only [leftN, List.range_succ, List.filter_append, List.filter_cons, List.filter_nil, h, Bool.not_false, if_true, List.length_append, List.length_cons, List.length_nil]
theorem leftN_le (cols : List Int) (k : Nat) : leftN cols k ≤ k := by
  have := List.length_filter_le (fun j : Nat => !cols.contains (j : Int)) (List.range k)
  simpa [leftN] using this
theorem restTo_len (ys cols : List Int) (k : Nat) : (restTo ys cols k).length = leftN cols k := by simp [restTo, leftN]
theorem joinZ_len (xs ys cols : List Int) : (joinZ xs ys cols).length = xs.length + leftN cols ys.length := by rw [joinZ, List.length_append, restTo_len]

def joinC (p q : Int) (ps : List (List Int)) : Nat := p.toNat + leftN (side ps 1) q.toNat
def joinW (ts us : List WRow) (ps : List (List Int)) : List WRow := putAll [] (joinL ts us ps)
def joinB (p q : Int) (ts us : List WRow) (ps : List (List Int)) : Bool := goodT p ts && (goodT q us && (pairsOk ps p.toNat q.toNat && (decide (joinC p q ps ≤ 6) && goodT (joinC p q ps) (joinW ts us ps))))
section
variable {p q : Int} {ts us : List WRow} {ps : List (List Int)}
theorem joinB_a (h : goodT p ts = false) : joinB p q ts us ps = false := by simp [joinB, h]
theorem joinB_b (h : goodT q us = false) : joinB p q ts us ps = false := by simp [joinB, h]
theorem joinB_p (h : pairsOk ps p.toNat q.toNat = false) : joinB p q ts us ps = false := by simp [joinB, h]
theorem joinB_c (h : 6 < joinC p q ps) : joinB p q ts us ps = false := by
  have : decide (joinC p q ps ≤ 6) = false := by simp; omega
  simp [joinB, this]
theorem joinB_yes (h1 : goodT p ts = true) (h2 : goodT q us = true) (h3 : pairsOk ps p.toNat q.toNat = true) (h4 : joinC p q ps ≤ 6) : joinB p q ts us ps = goodT (joinC p q ps) (joinW ts us ps) := by simp [joinB, h1, h2, h3, h4]
theorem joinB_goodT (h : joinB p q ts us ps = true) : goodT (joinC p q ps) (joinW ts us ps) = true := by
  simp only [joinB, Bool.and_eq_true] at h
  exact h.2.2.2.2
end

theorem good_noughts' {q : Nat} (h : q ≤ 6) : good (List.replicate q 0) = true := by
  refine good_of (by simpa using h) fun k hk => ?_
  have : (List.replicate q (0 : Int)).getD k 0 = 0 := by
    rw [List.getD_eq_getElem?_getD, List.getElem?_replicate]; split <;> rfl
  rw [this]; omega
theorem pick_noughts (q : Nat) (cols : List Int) : pick (List.replicate q 0) cols = List.replicate cols.length 0 := by
  unfold pick
  rw [List.eq_replicate_iff]
  refine ⟨by simp, fun x hx => ?_⟩
  obtain ⟨c, _, rfl⟩ := List.mem_map.1 hx
  rw [List.getD_eq_getElem?_getD, List.getElem?_replicate]; split <;> rfl
theorem joinOk_noughts {p q : Nat} (hp : p ≤ 6) (hq : q ≤ 6) (ps : List (List Int)) : joinOk (List.replicate p 0) (List.replicate q 0) ps = (pairsOk ps p q && decide (joinC p q ps ≤ 6)) := by
  unfold joinOk
  rw [good_noughts' hp, good_noughts' hq, pick_noughts, pick_noughts, side_length, side_length, joinZ_len, List.length_replicate, List.length_replicate, decide_eq_true rfl]
  simp [joinC]
  rfl
theorem joinAns_noughts {p q : Nat} {ps : List (List Int)} (h : joinOk (List.replicate p 0) (List.replicate q 0) ps = true) : (joinAns (List.replicate p 0) (List.replicate q 0) ps).length = joinC p q ps := by
  unfold joinAns
  rw [if_pos h, joinZ_len]
  simp [joinC]

theorem prod_in {x y : Int} (h1 : -1000000 ≤ x) (h2 : x ≤ 1000000) (h3 : -1000000 ≤ y) (h4 : y ≤ 1000000) : -1000000000000 ≤ x * y ∧ x * y ≤ 1000000000000 := by
  have a := Int.mul_nonneg (show 0 ≤ 1000000 - x by omega) (show 0 ≤ 1000000 + y by omega)
  have b := Int.mul_nonneg (show 0 ≤ 1000000 + x by omega) (show 0 ≤ 1000000 - y by omega)
  have c := Int.mul_nonneg (show 0 ≤ 1000000 - x by omega) (show 0 ≤ 1000000 - y by omega)
  have d := Int.mul_nonneg (show 0 ≤ 1000000 + x by omega) (show 0 ≤ 1000000 + y by omega)
  simp only [Int.sub_mul, Int.add_mul, Int.mul_sub, Int.mul_add] at a b c d
  constructor <;> omega
theorem prod_wrap {x y : Int} (h1 : -1000000 ≤ x) (h2 : x ≤ 1000000) (h3 : -1000000 ≤ y) (h4 : y ≤ 1000000) : IntKind.i64.wrap (x * y) = x * y := by
  have := prod_in h1 h2 h3 h4
  exact IntWalk.i64_in _ (by omega)

theorem prod_wrap64 {x y : Int} (h1 : -1000000 ≤ x) (h2 : x ≤ 1000000) (h3 : -1000000 ≤ y) (h4 : y ≤ 1000000) : Go.RowKit.wrap64 (x * y) = x * y := by
  have := prod_in h1 h2 h3 h4
  unfold Go.RowKit.wrap64; omega

theorem joinG_some {ps : List (List Int)} {t u v : WRow} (h : joinG ps t u = some v) : joinOk t.1 u.1 ps = true ∧ v = (joinZ t.1 u.1 (side ps 1), t.2 * u.2) := by
  unfold joinG at h
  split at h
  · rename_i h1
    cases h
    exact ⟨h1, by rw [joinAns, if_pos h1]⟩
  · cases h
theorem joinL_mem {xs ys : List WRow} {ps : List (List Int)} {t : WRow} (h : t ∈ joinL xs ys ps) : ∃ a ∈ xs, ∃ b ∈ ys, joinG ps a b = some t := by
  unfold joinL at h
  obtain ⟨a, ha, h1⟩ := List.mem_flatMap.1 h
  obtain ⟨b, hb, h2⟩ := List.mem_filterMap.1 h1
  exact ⟨a, ha, b, hb, h2⟩
theorem joinG_row {p q : Nat} {ts us : List WRow} {ps : List (List Int)} (h : goodT p ts = true) (k : goodT q us = true) {a b t : WRow} (ha : a ∈ ts) (hb : b ∈ us) (hg : joinG ps a b = some t) :
    good t.1 = true ∧ t.1.length = joinC p q ps ∧ -1000000000000 ≤ t.2 ∧ t.2 ≤ 1000000000000 := by
  obtain ⟨h1, rfl⟩ := joinG_some hg
  have ga := goodT_mem h a ha
  have gb := goodT_mem k b hb
  have wa := (goodL_mem (goodL_of_goodT h) a ha).2.2
  have wb := (goodL_mem (goodL_of_goodT k) b hb).2.2
  have hj : (joinZ a.1 b.1 (side ps 1)).length ≤ 6 := by
    simp only [joinOk, Bool.and_eq_true, decide_eq_true_eq] at h1
    exact h1.2
  refine ⟨?_, ?_, prod_in wa.1 wa.2 wb.1 wb.2⟩
  · show good (joinZ a.1 b.1 (side ps 1)) = true
    rw [good_joinZ ga.1 gb.1, decide_eq_true hj]
  · show (joinZ a.1 b.1 (side ps 1)).length = _
    rw [joinZ_len, ga.2, gb.2]; simp [joinC]
theorem joinL_rows {p q : Nat} {ts us : List WRow} {ps : List (List Int)} (h : goodT p ts = true) (k : goodT q us = true) : ∀ t ∈ joinL ts us ps, good t.1 = true ∧ t.1.length = joinC p q ps ∧ -1000000000000 ≤ t.2 ∧ t.2 ≤ 1000000000000 := fun t ht => by
  obtain ⟨a, ha, b, hb, hg⟩ := joinL_mem ht
  exact joinG_row h k ha hb hg
theorem joinL_len (xs ys : List WRow) (ps : List (List Int)) : (joinL xs ys ps).length ≤ xs.length * ys.length := by
  unfold joinL
  induction xs with
  | nil => simp
  | cons t xs ih =>
    rw [List.flatMap_cons, List.length_append, List.length_cons, Nat.succ_mul]
    have := List.length_filterMap_le (joinG ps t) ys
    omega
theorem tells_join {p q : Nat} {ts us : List WRow} {ps : List (List Int)} (h : goodT p ts = true) (k : goodT q us = true) : Tells (joinC p q ps) (sumAt (joinL ts us ps) (joinL ts us ps).length 1) (joinW ts us ps) :=
  tells_put List.Pairwise.nil (fun t ht => by cases ht) (fun t ht => by cases ht) (fun t ht => by have := joinL_rows h k t ht; exact ⟨this.1, this.2.1⟩)
    fun zs h1 _ => by rw [sumAt_sumW rfl 1 (fun t ht => (joinL_rows h k t ht).1) h1, wOf_nil]; omega

/-- What has come of the join when k rows of the one are through and j of the other with the next. -/
def accJ (ts us : List WRow) (ps : List (List Int)) (k j : Nat) : List WRow := joinL (ts.take k) us ps ++ (us.take j).filterMap (joinG ps (wat ts k))
section
variable {ts us : List WRow} {ps : List (List Int)} {k j : Nat}
theorem accJ_zero : accJ ts us ps k 0 = joinL (ts.take k) us ps := by simp [accJ]
theorem accJ_some (hj : j < us.length) {v : WRow} (h : joinG ps (wat ts k) (wat us j) = some v) : putAll [] (accJ ts us ps k (j + 1)) = putW (putAll [] (accJ ts us ps k j)) v.1 v.2 := by
  have e : accJ ts us ps k (j + 1) = accJ ts us ps k j ++ [v] := by
    unfold accJ
    rw [wtake_succ us j hj, List.filterMap_append, List.filterMap_cons, h, List.append_assoc]
    rfl
  rw [e, putAll_snoc]
theorem accJ_none (hj : j < us.length) (h : joinG ps (wat ts k) (wat us j) = none) : accJ ts us ps k (j + 1) = accJ ts us ps k j := by
  unfold accJ
  rw [wtake_succ us j hj, List.filterMap_append, List.filterMap_cons, h]
  simp
theorem accJ_all (hk : k < ts.length) : accJ ts us ps k us.length = joinL (ts.take (k + 1)) us ps := by
  unfold accJ joinL
  rw [wtake_succ ts k hk, List.flatMap_append, List.take_length]
  simp
theorem accJ_len (h1 : ts.length ≤ 60) (h2 : us.length ≤ 60) (hk : k < ts.length) : (accJ ts us ps k j).length ≤ 3600 := by
  unfold accJ
  rw [List.length_append]
  have a := joinL_len (ts.take k) us ps
  have b := List.length_filterMap_le (joinG ps (wat ts k)) (us.take j)
  rw [List.length_take] at a b
  have c : min k ts.length * us.length ≤ 59 * 60 := Nat.mul_le_mul (by omega) h2
  omega
theorem accJ_row {p q : Nat} (h : goodT p ts = true) (g : goodT q us = true) (hk : k < ts.length) : ∀ t ∈ accJ ts us ps k j, good t.1 = true ∧ t.1.length = joinC p q ps ∧ -1000000000000 ≤ t.2 ∧ t.2 ≤ 1000000000000 := fun t ht => by
  rcases List.mem_append.1 ht with h1 | h1
  · obtain ⟨a, ha, b, hb, hg⟩ := joinL_mem h1
    exact joinG_row h g (List.mem_of_mem_take ha) hb hg
  · obtain ⟨b, hb, hg⟩ := List.mem_filterMap.1 h1
    exact joinG_row h g (wat_mem hk) (List.mem_of_mem_take hb) hg
end

theorem putAll_in' {l : List WRow} {M : Int} (hM : 0 ≤ M) (hl : ∀ t ∈ l, t.1.length ≤ 6 ∧ -M ≤ t.2 ∧ t.2 ≤ M) : ∀ t ∈ putAll [] l, t.1.length ≤ 6 ∧ -(M * l.length) ≤ t.2 ∧ t.2 ≤ M * l.length := fun t h => by
  have hr : Rises [] := List.Pairwise.nil
  have h6 : t.1.length ≤ 6 := by
    rcases putAll_rows h with ⟨s, hs, e⟩ | ⟨s, hs, e⟩
    · cases hs
    · rw [← e]; exact (hl s hs).1
  have hw := wOf_mem (putAll_rises (l := l) hr) h
  rw [putAll_wOf t.1 hr] at hw
  have b2 := sumW_bound (zs := t.1) hM (fun s hs => (hl s hs).2)
  have b0 : wOf [] t.1 = 0 := rfl
  omega

/-- All that a walk of the inner loop asks of them. -/
theorem accJ_pack {p q : Nat} {ts us : List WRow} {ps : List (List Int)} {k n' : Nat} (h : goodT p ts = true) (g : goodT q us = true) (hk : k < ts.length) (hn' : us.length = n') :
    ∃ AC : Nat → List WRow, AC 0 = putAll [] (joinL (ts.take k) us ps) ∧ (∀ j v, j < n' → joinG ps (wat ts k) (wat us j) = some v → AC (j + 1) = putW (AC j) v.1 v.2) ∧ (∀ j, j < n' → joinG ps (wat ts k) (wat us j) = none → AC (j + 1) = AC j) ∧
      AC n' = putAll [] (joinL (ts.take (k + 1)) us ps) ∧ ∀ j, (AC j).length ≤ 3600 ∧ ∀ i, i < (AC j).length → (wat (AC j) i).1.length ≤ 6 ∧ -4000000000000000000 ≤ (wat (AC j) i).2 ∧ (wat (AC j) i).2 ≤ 4000000000000000000 := by
  refine ⟨fun j => putAll [] (accJ ts us ps k j), by simp only [accJ_zero], fun j v hj hv => accJ_some (by omega) hv, fun j hj hv => by simp only [accJ_none (show j < us.length by omega) hv], by subst hn'; simp only [accJ_all hk], fun j => ?_⟩
  have hl := accJ_len (ps := ps) (j := j) (goodT_len60 h) (goodT_len60 g) hk
  refine ⟨?_, fun i hi => ?_⟩
  · have := putAll_len (accJ ts us ps k j) []
    simp only [List.length_nil] at this
    show (putAll [] (accJ ts us ps k j)).length ≤ 3600
    omega
  · have := at_of_mem (putAll_in' (M := 1000000000000) (by omega) (fun t ht => by have := accJ_row (ps := ps) h g hk t ht; exact ⟨good_len this.1, this.2.2⟩)) i hi
    refine ⟨this.1, ?_, ?_⟩ <;> (dsimp only; omega)

/-- The model's join of two rows, where all is good. -/
theorem l1B_joinOk {xs ys : List Int} {ps : List (List Int)} (hx : good xs = true) (hy : good ys = true) (hp : pairsOk ps xs.length ys.length = true) : l1B xs ys ps = joinOk xs ys ps := by
  simp [joinOk, l1B, hx, hy, hp]
theorem l1Z_joinAns {xs ys : List Int} {ps : List (List Int)} (h : joinOk xs ys ps = true) : l1Z xs ys ps = joinAns xs ys ps := by
  have : pick xs (side ps 0) = pick ys (side ps 1) := by simp only [joinOk, Bool.and_eq_true, decide_eq_true_eq] at h; exact h.1.2
  simp [joinAns, h, l1Z, this]

end Go.Proofs.Ytaaefdddibdenaa

/- Contracts of spec.l3Left and spec.l3Join. -/
namespace Go.Proofs.Ytaaefdddibdenaa
open Go.RowKit

set_option maxRecDepth 100000 in
set_option maxHeartbeats 2000000 in
theorem l3Left_any (p : Option Addr) (l d : Nat) (ps : List (List Int)) (na nb : Nat) (w : World) (hl : ps.length = l) (hnb : nb ≤ 6) (hok : pairsOk ps na nb = true) (hp : AtS w p ps) :
    Calls Try.prog 48 #[.slice p l d, .int .i64 nb] w fun e w' => e = .returned (.int .i64 (leftN (side ps 1) nb : Nat)) ∧ w' = w := by
  have l6 : l ≤ 6 := by have := pairsOk_len hok; omega
  have hpair := fun k hk => pairsOk_at hok k hk
  clear hok
  go_enter Try.func48, Try.ntmps48
  go_wp2
  go_loop [5, 6] (fun a i => ∃ k : Nat, k ≤ nb ∧ i = .int .i64 k ∧ a = .int .i64 (leftN (side ps 1) k : Nat)) (fun _ i => nb - (intOf i).toNat)
  case atStart => exact ⟨0, Nat.zero_le _, rfl, rfl⟩
  case round =>
    obtain ⟨k, hk, rfl, rfl⟩ := hrel
    by_cases hlt : k < nb
    · have hle := leftN_le (side ps 1) k
      have HT := Hid.mk (leftN_take (side ps 1) k)
      have HK := Hid.mk (leftN_skip (side ps 1) k)
      generalize leftN (side ps 1) k = N at *
      go_wp2
      go_loop [7, 17] (fun pd i => ∃ i' : Nat, i' ≤ l ∧ i = .int .i64 i' ∧ pd = .bool (((side ps 1).take i').contains (k : Int))) (fun _ i => l - (intOf i).toNat)
      case atStart => exact ⟨0, Nat.zero_le _, rfl, by simp⟩
      case round =>
        obtain ⟨i, hi', rfl, rfl⟩ := hrel
        by_cases hil : i < l
        · obtain ⟨pb, poff, rfl, hpc⟩ := hp.some (by omega)
          obtain ⟨q, qd, hcx, _, hat⟩ := hpc i (by omega)
          obtain ⟨hl2, _⟩ := hpair i (by omega)
          have HC := Hid.mk (contains_snoc (side ps 1) i (by rw [side_length]; omega) (k : Int))
          rw [side_getD ps 1 i (by omega)] at HC
          generalize ps.getD i [] = pr at *
          obtain ⟨b', off', rfl, hb', hc'⟩ := hat.some (by omega)
          have hp1 := hc' 1 (by omega)
          rw [hl2] at hcx
          generalize pr.getD 1 0 = y1 at *
          generalize ((side ps 1).take i).contains (k : Int) = bl at *
          clear hpc hc' hl2 hpair HT HK
          cases bl with
          | true =>
            go_wp2
            go_round
            case rel => exact ⟨i + 1, by omega, by go_num, by rw [HC.out]; rfl⟩
            case measure => simp [intOf]; omega
          | false =>
            go_wp2
            go_round
            case rel => exact ⟨i + 1, by omega, by go_num, by rw [HC.out]; simp⟩
            case measure => simp [intOf]; omega
        · obtain rfl : i = l := by omega
          rw [show (side ps 1).take i = side ps 1 by rw [List.take_of_length_le (by rw [side_length]; omega)]]
          cases hct : (side ps 1).contains (k : Int) with
          | true =>
            have HE := Hid.mk (HK.out hct)
            clear HK HT hct
            go_wp2
            go_round
            case rel => exact ⟨k + 1, by omega, by go_num, by rw [HE.out]⟩
            case measure => simp [intOf]; omega
          | false =>
            have HE := Hid.mk (HT.out hct)
            clear HK HT hct
            go_wp2
            go_round
            case rel => exact ⟨k + 1, by omega, by go_num, by rw [HE.out]; go_num⟩
            case measure => simp [intOf]; omega
    · obtain rfl : k = nb := by omega
      go_wp2
      go_ret
      exact ⟨rfl, rfl⟩

set_option maxRecDepth 100000 in
set_option maxHeartbeats 4000000 in
theorem l3Join_any (a a' p : Option Addr) (n n' l c c' d : Nat) (ts us : List WRow) (ps : List (List Int)) (p0 q0 : Nat) (w : World) (hz : ts.length = n) (hz' : us.length = n') (hl : ps.length = l) (hgT : goodT p0 ts = true) (hgU : goodT q0 us = true) (hok : pairsOk ps p0 q0 = true)
    (ha : AtM w a ts) (ha' : AtM w a' us) (hp : AtS w p ps) :
    Calls Try.prog 49 #[.slice a n c, .slice a' n' c', .slice p l d] w fun e w' => ∃ r k d, e = .returned (.slice r k d) ∧ (joinW ts us ps).length = k ∧ AtM w' r (joinW ts us ps) ∧ Below w.heap.size w w' := by
  have n60 : n ≤ 60 := by have := goodT_len60 hgT; omega
  have n60' : n' ≤ 60 := by have := goodT_len60 hgU; omega
  have q6 : p0 ≤ 6 := by have := inc_range (goodT_parts hgT).1; omega
  have q6' : q0 ≤ 6 := by have := inc_range (goodT_parts hgU).1; omega
  have HRT : Hid (∀ k, k < n → good (wat ts k).1 = true ∧ (wat ts k).1.length = p0 ∧ -1000000 ≤ (wat ts k).2 ∧ (wat ts k).2 ≤ 1000000) := fun k hk => by
    have h1 := at_of_mem (goodT_mem hgT) k (by omega)
    exact ⟨h1.1, h1.2, (at_of_mem (goodL_mem (goodL_of_goodT hgT)) k (by omega)).2.2⟩
  have HRU : Hid (∀ k, k < n' → good (wat us k).1 = true ∧ (wat us k).1.length = q0 ∧ -1000000 ≤ (wat us k).2 ∧ (wat us k).2 ≤ 1000000) := fun k hk => by
    have h1 := at_of_mem (goodT_mem hgU) k (by omega)
    exact ⟨h1.1, h1.2, (at_of_mem (goodL_mem (goodL_of_goodT hgU)) k (by omega)).2.2⟩
  have HPK : Hid (∀ k, k < n → _) := fun k hk => accJ_pack (ps := ps) hgT hgU (show k < ts.length by omega) hz'
  have HOK := Hid.mk hok
  have HW : Hid (joinW ts us ps = putAll [] (joinL (ts.take n) us ps)) := by show _ = _; rw [List.take_of_length_le (by omega)]; rfl
  clear hgT hgU hok
  go_enter Try.func49, Try.ntmps49
  go_wp2
  go_loopw [7, 16] (fun o i wr => ∃ (k : Nat) (r : Option Addr) (m d : Nat), k ≤ n ∧ i = .int .i64 k ∧ o = .slice r m d ∧ (putAll [] (joinL (ts.take k) us ps)).length = m ∧ Formed r m d ∧ AtM wr r (putAll [] (joinL (ts.take k) us ps)) ∧ Below w.heap.size w wr) (fun _ i _ => n - (intOf i).toNat)
  case atStart => exact ⟨0, none, 0, 0, Nat.zero_le _, rfl, rfl, rfl, Formed.nil, atM_nil _ _, Below.refl _ _⟩
  case round =>
    obtain ⟨k, r, m, dm, hk, rfl, rfl, hm, hFr, har, hbw⟩ := hrel
    by_cases hlt : k < n
    · obtain ⟨b, off, rfl, hc⟩ := (ha.below hbw).some (by omega)
      obtain ⟨q, dd, hcx, hwx, hm1, hnil, hat⟩ := hc k (by omega)
      have hro := HRT.out k hlt
      obtain ⟨AC, a0, aS, aN, aA, aB⟩ := HPK.out k hlt
      rw [← a0] at hm har
      have HAS := Hid.mk aS
      have HAN := Hid.mk aN
      have HAA := Hid.mk aA
      have HAB := Hid.mk aB
      clear aS aN aA aB a0
      have hki : (k : Int) < (n : Int) := by omega
      generalize wat ts k = Y at *
      obtain ⟨xz, x⟩ := Y
      simp only at hcx hwx hat hm1 hro
      obtain ⟨m2, hmm⟩ : ∃ m2, xz.length = m2 := ⟨_, rfl⟩
      rw [hmm] at hcx hm1 hro
      have HM := Hid.mk hmm
      have HRO := Hid.mk hro
      have l6 : m2 ≤ 6 := by omega
      obtain ⟨V, hV⟩ : ∃ V, V = wr.alloc (.cells #[.slice q m2 dd, .int .i64 x] 89) := ⟨_, rfl⟩
      obtain ⟨S, hS⟩ : ∃ S, S = wr.heap.size := ⟨_, rfl⟩
      have hbV : Below wr.heap.size wr V := by rw [hV]; exact (Below.refl _ _).alloc (Nat.le_refl _) _
      have v0 : V.cell? ⟨S, 0, none⟩ = some (.slice q m2 dd) := by rw [hV, hS]; exact pair0 wr _ _ _
      have v1 : V.cell? ⟨S, 1, none⟩ = some (.int .i64 x) := by rw [hV, hS]; exact pair1 wr _ _ _
      have HB1 := Hid.mk (hbw.trans (hbV.mono hbw.size))
      have HAT := Hid.mk (hat.below hbV)
      have HAR := Hid.mk (har.below hbV)
      clear hmm hc hat har hro hbV
      go_wp2
      rw [← hV, ← hS]
      clear hV hcx hwx hS
      go_loopw [7, 22] (fun o i ws => ∃ (j : Nat) (r : Option Addr) (m d : Nat), j ≤ n' ∧ i = .int .i64 j ∧ o = .slice r m d ∧ (AC j).length = m ∧ Formed r m d ∧ AtM ws r (AC j) ∧ Below V.heap.size V ws) (fun _ i _ => n' - (intOf i).toNat)
      case atStart => exact ⟨0, r, m, dm, Nat.zero_le _, rfl, rfl, hm, hFr, HAR.out, Below.refl _ _⟩
      case round =>
        clear hm hFr HAR hbw
        obtain ⟨j, r, m, dm, hj, rfl, rfl, hm, hFr, har, hbs⟩ := hrel
        have BS := HB1.out.trans (hbs.mono HB1.out.size)
        by_cases hjt : j < n'
        · obtain ⟨b2, off2, rfl, hc2⟩ := (ha'.below BS).some (by omega)
          obtain ⟨q2, dd2, hcx2, hwx2, hm12, hnil2, hat2⟩ := hc2 j (by omega)
          have hru := HRU.out j hjt
          have HS1 := Hid.mk (fun v => HAS.out j v hjt)
          have HN1 := Hid.mk (HAN.out j hjt)
          have HLB := Hid.mk (HAB.out j)
          have hm36 : m ≤ 3600 := by have := HLB.out.1; omega
          have hji : (j : Int) < (n' : Int) := by omega
          generalize wat us j = Y2 at *
          obtain ⟨yz, y⟩ := Y2
          simp only at hcx2 hwx2 hat2 hm12 hru
          obtain ⟨m3, hmm⟩ : ∃ m3, yz.length = m3 := ⟨_, rfl⟩
          rw [hmm] at hcx2 hm12 hru
          have HM2 := Hid.mk hmm
          have l62 : m3 ≤ 6 := by omega
          obtain ⟨U, hU⟩ : ∃ U, U = wr.alloc (.cells #[.slice q2 m3 dd2, .int .i64 y] 89) := ⟨_, rfl⟩
          have hbU : Below wr.heap.size wr U := by rw [hU]; exact (Below.refl _ _).alloc (Nat.le_refl _) _
          have u0 : U.cell? ⟨wr.heap.size, 0, none⟩ = some (.slice q2 m3 dd2) := by rw [hU]; exact pair0 wr _ _ _
          have u1 : U.cell? ⟨wr.heap.size, 1, none⟩ = some (.int .i64 y) := by rw [hU]; exact pair1 wr _ _ _
          have hbUL : Below wr.heap.size wr (wr.alloc (.cells #[.slice q2 m3 dd2, .int .i64 y] 89)) := (Below.refl _ _).alloc (Nat.le_refl _) _
          have x0 := cell_later hbUL (cell_later hbs v0)
          have x1 := cell_later hbUL (cell_later hbs v1)
          have BU := BS.trans (hbU.mono BS.size)
          have YU := hbs.trans (hbU.mono hbs.size)
          have HATX := Hid.mk (HAT.out.below YU)
          have HATY := Hid.mk (hat2.below hbU)
          have HAR := Hid.mk (har.below hbU)
          have HP := Hid.mk (hp.below BU)
          have hokk : pairsOk ps m2 m3 = true := by rw [HRO.out.2.1, hru.2.1]; exact HOK.out
          have HKK := Hid.mk hokk
          have HLJ : Hid (l1B xz yz ps = joinOk xz yz ps) := l1B_joinOk HRO.out.1 hru.1 (by rw [HM.out, HM2.out]; exact hokk)
          have hwr := prod_wrap HRO.out.2.2.1 HRO.out.2.2.2 hru.2.2.1 hru.2.2.2
          have hwr2 := prod_wrap64 HRO.out.2.2.1 HRO.out.2.2.2 hru.2.2.1 hru.2.2.2
          have HPI := Hid.mk (prod_in HRO.out.2.2.1 HRO.out.2.2.2 hru.2.2.1 hru.2.2.2)
          clear hmm hc2 hat2 har hokk hru
          go_wp2_with fail
          rw [← hU] at x0 x1 ⊢
          clear hU hcx2 hwx2 hbUL
          refine (l1Join_any _ _ _ _ _ _ _ _ _ xz yz ps _ HM.out HM2.out hl l6 l62 hnil HATX.out HATY.out HP.out HKK.out).mono ?_
          rintro e w5 ⟨r5, m5, d5, rfl, hm5, ho5, hb5⟩
          rw [HLJ.out]
          have x0 := cell_later hb5 x0
          have x1 := cell_later hb5 x1
          have u0 := cell_later hb5 u0
          have u1 := cell_later hb5 u1
          have YU := YU.trans (hb5.mono YU.size)
          have HAR := Hid.mk (HAR.out.below hb5)
          obtain ⟨w6, hw6⟩ : ∃ w6, w6 = w5.alloc (.cells #[.slice r5 m5 d5] 69) := ⟨_, rfl⟩
          have hbL : Below w5.heap.size w5 (w5.alloc (.cells #[.slice r5 m5 d5] 69)) := (Below.refl _ _).alloc (Nat.le_refl _) _
          have hb6 : Below w5.heap.size w5 w6 := by rw [hw6]; exact hbL
          have x0 := cell_later hbL x0
          have x1 := cell_later hbL x1
          have u0 := cell_later hbL u0
          have u1 := cell_later hbL u1
          have YU := YU.trans (hb6.mono YU.size)
          have HAR := Hid.mk (HAR.out.below hb6)
          cases hok : joinOk xz yz ps with
          | true =>
            have hjs := HS1.out (joinAns xz yz ps, x * y) (if_pos hok)
            have HJS := Hid.mk hjs
            have HJA := Hid.mk (l1Z_joinAns hok)
            rw [HJA.out] at hm5 ho5
            have HO5 := Hid.mk ho5
            have hm56 : m5 ≤ 6 := by
              have hj6 : (joinZ xz yz (side ps 1)).length ≤ 6 := by simp only [joinOk, Bool.and_eq_true, decide_eq_true_eq] at hok; exact hok.2
              rw [← hm5, joinAns, if_pos hok]; exact hj6
            clear hjs hok ho5 hb5 hbs hbU BU BS
            go_wp2_with fail
            rw [← hw6]
            refine (l2Put_any _ _ _ _ _ _ (AC j) (joinAns xz yz ps) (x * y) _ hm hm5 (by omega) hFr hm56 (owns_formed HO5.out).2.1 (fun i hi => HLB.out.2 i (by omega)) (by have := HPI.out; omega) (by have := HPI.out; omega) HAR.out ((At.owned HO5.out).below hb6)).mono ?_
            rintro e w7 ⟨r7, m7, d7, rfl, hm7, hF7, ha7, hb7⟩
            rw [← HJS.out] at hm7 ha7
            have HM7 := Hid.mk hm7
            have HF7 := Hid.mk hF7
            have HA7 := Hid.mk ha7
            have HB7 := Hid.mk (YU.trans (hb7.mono YU.size))
            clear hm7 hF7 ha7 hb7 hm hFr HAR YU hb6 hbL hw6
            go_wp2
            go_roundw
            case rel => exact ⟨j + 1, _, _, _, by omega, by go_num, rfl, HM7.out, HF7.out, HA7.out, HB7.out⟩
            case measure => simp [intOf]; omega
          | false =>
            have HE : Hid (AC (j + 1) = AC j) := HN1.out (if_neg (by simp [hok]))
            have HM7 : Hid ((AC (j + 1)).length = m) := by show _ = _; rw [HE.out]; exact hm
            have HA7 : Hid (AtM w6 r (AC (j + 1))) := by show AtM _ _ _; rw [HE.out]; exact HAR.out
            have HB7 := Hid.mk YU
            clear hok ho5 hb5 hbs hbU BU BS hm HAR YU hb6 hbL
            go_wp2
            go_roundw
            case rel => exact ⟨j + 1, _, _, _, by omega, by go_num, rfl, HM7.out, hFr, by rw [← hw6]; exact HA7.out, by rw [← hw6]; exact HB7.out⟩
            case measure => simp [intOf]; omega
        · obtain rfl : j = n' := by omega
          rw [HAA.out] at hm har
          have HMM := Hid.mk hm
          have HARR := Hid.mk har
          have HBS := Hid.mk BS
          clear hm har BS hbs
          go_wp2
          go_roundw
          case rel => exact ⟨k + 1, _, _, _, by omega, by go_num, rfl, HMM.out, hFr, HARR.out, HBS.out⟩
          case measure => simp [intOf]; omega
    · obtain rfl : k = n := by omega
      rw [← HW.out] at hm har
      go_wp2
      go_ret
      exact ⟨_, _, _, rfl, hm, har, hbw⟩

end Go.Proofs.Ytaaefdddibdenaa
