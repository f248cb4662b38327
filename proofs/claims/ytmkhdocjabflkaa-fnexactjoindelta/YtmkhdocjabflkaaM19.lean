/- Plain: the product of two maps of weights, by what their rows make together. -/
import Derived.Test.YtmkhdocjabflkaaM18
import Derived.Test.YtmkhdocjabflkaaM15
namespace Go.Proofs.Ytmkhdocjabflkaa
open Go.RowKit Go.Maps

/-- What two arrays make together. -/
def mJ (p q : Nat) (ps : List (List Int)) (a c : List Int) : Option (List Int) := if joinOk (unr p a) (unr q c) ps = true then some (raised (joinZ (unr p a) (unr q c) (side ps 1))) else none
def oneK (o : Option (List Int)) (z : List Int) : Int := if o = some z then 1 else 0
def inK (m : List Int → List Int → Option (List Int)) (f : List Int → Int) (a : List Int) (ks : List (List Int)) (z : List Int) : Int := (ks.map fun c => f c * oneK (m a c) z).sum
def inY (m : List Int → List Int → Option (List Int)) (a : List Int) (ys : List WRow) (z : List Int) : Int := (ys.map fun t => t.2 * oneK (m a (raised t.1)) z).sum
def outK (m : List Int → List Int → Option (List Int)) (f : List Int → Int) (ys : List WRow) (ks : List (List Int)) (z : List Int) : Int := (ks.map fun a => f a * inY m a ys z).sum
def outX (m : List Int → List Int → Option (List Int)) (xs ys : List WRow) (z : List Int) : Int := (xs.map fun t => t.2 * inY m (raised t.1) ys z).sum

theorem mJ_raised {p q : Nat} {ps : List (List Int)} {xs ys : List Int} (hx : xs.length = p) (hy : ys.length = q) : mJ p q ps (raised xs) (raised ys) = if joinOk xs ys ps = true then some (raised (joinZ xs ys (side ps 1))) else none := by
  subst hx hy
  unfold mJ
  rw [unr_raised, unr_raised]

section
variable {m : List Int → List Int → Option (List Int)} {f g : List Int → Int} {a c z : List Int} {ks : List (List Int)} {ys : List WRow}
theorem inK_none (h : m a c = none) : inK m f a (c :: ks) z = inK m f a ks z := by
  simp [inK, h, oneK]
theorem inK_some {k : List Int} (h : m a c = some k) : inK m f a (c :: ks) z = inK m f a ks z + if z = k then f c else 0 := by
  unfold inK
  rw [List.map_cons, List.sum_cons, h]
  unfold oneK
  by_cases e : z = k
  · subst e; simp; omega
  · rw [if_neg (fun h => e (Option.some.inj h).symm), if_neg e]; omega
theorem inK_nil : inK m f a [] z = 0 := rfl
theorem outK_nil : outK m f ys [] z = 0 := rfl
theorem outK_cons : outK m f ys (a :: ks) z = f a * inY m a ys z + outK m f ys ks z := by simp [outK]
/-- The inner loop is through. -/
theorem inK_all {q : Nat} (h : Tells q g ys) (hk : Keys q ks) (hn : ks.Nodup) (hz : ∀ zs, good zs = true → zs.length = q → raised zs ∉ ks → g (raised zs) = 0) : inK m g a ks z = inY m a ys z :=
  sum_tells h hk hn hz fun c => oneK (m a c) z
theorem outK_all {q : Nat} {xs : List WRow} (h : Tells q f xs) (hk : Keys q ks) (hn : ks.Nodup) (hz : ∀ zs, good zs = true → zs.length = q → raised zs ∉ ks → f (raised zs) = 0) : outK m f ys ks z = outX m xs ys z :=
  sum_tells h hk hn hz fun a => inY m a ys z
end

theorem mapIs_bump {D : DataW Unit} {G : List Int → Int} {S : List (List Int)} (hm : MapIs D G S) (hD : IsMap D) {k : List Int} (hk : Fits k) {cc v : Int} (hcc : D.atKey (klit k) (.lit (.int .i64 0)) = .lit (.int .i64 cc)) :
    cc = G k ∧ MapIs (D.put (klit k) (.lit (.int .i64 (cc + v)))) (fun z => G z + if z = k then v else 0) (k :: S) := by
  have h1 : cc = G k := hm.at hk hcc
  refine ⟨h1, (hm.put hD hk _).congr (fun z => ?_) rfl⟩
  by_cases e : z = k
  · subst e; simp [h1]
  · simp [e]

theorem sumW_append (l k : List WRow) (zs : List Int) : sumW (l ++ k) zs = sumW l zs + sumW k zs := by
  unfold sumW
  rw [List.map_append, List.sum_append]
section
variable {p q : Nat} {ps : List (List Int)} {zs : List Int}
theorem sumW_in (hz : good zs = true) (t : WRow) (ht : good t.1 = true ∧ t.1.length = p) : ∀ ys : List WRow, (∀ u ∈ ys, good u.1 = true ∧ u.1.length = q) → sumW (ys.filterMap (joinG ps t)) zs = t.2 * inY (mJ p q ps) (raised t.1) ys (raised zs)
  | [], _ => by simp [sumW, inY]
  | u :: ys, h => by
    have hu := h u (List.mem_cons_self ..)
    have ih := sumW_in hz t ht ys fun v hv => h v (List.mem_cons_of_mem _ hv)
    have e : inY (mJ p q ps) (raised t.1) (u :: ys) (raised zs) = u.2 * oneK (mJ p q ps (raised t.1) (raised u.1)) (raised zs) + inY (mJ p q ps) (raised t.1) ys (raised zs) := by simp [inY]
    rw [e, mJ_raised ht.2 hu.2]
    by_cases hj : joinOk t.1 u.1 ps = true
    · have hG : joinG ps t u = some (joinAns t.1 u.1 ps, t.2 * u.2) := by unfold joinG; rw [if_pos hj]
      have hjz : (joinZ t.1 u.1 (side ps 1)).length ≤ 6 := by
        simp only [joinOk, Bool.and_eq_true, decide_eq_true_eq] at hj
        exact hj.2
      have hgz : good (joinZ t.1 u.1 (side ps 1)) = true := by rw [good_joinZ ht.1 hu.1, decide_eq_true hjz]
      have hf : (u :: ys).filterMap (joinG ps t) = [(joinAns t.1 u.1 ps, t.2 * u.2)] ++ ys.filterMap (joinG ps t) := by rw [List.filterMap_cons, hG]; rfl
      rw [hf, sumW_append, ih, if_pos hj]
      have hs : sumW [(joinAns t.1 u.1 ps, t.2 * u.2)] zs = t.2 * (u.2 * oneK (some (raised (joinZ t.1 u.1 (side ps 1)))) (raised zs)) := by
        have ha : joinAns t.1 u.1 ps = joinZ t.1 u.1 (side ps 1) := by rw [joinAns, if_pos hj]
        rw [ha]
        unfold oneK
        by_cases e2 : joinZ t.1 u.1 (side ps 1) = zs
        · simp [sumW, e2]
        · have : raised (joinZ t.1 u.1 (side ps 1)) ≠ raised zs := fun h => e2 (raised_inj hgz hz h)
          simp [sumW, e2, this]
      rw [hs, Int.mul_add]
    · have hG : joinG ps t u = none := by unfold joinG; rw [if_neg hj]
      have hf : (u :: ys).filterMap (joinG ps t) = ys.filterMap (joinG ps t) := by rw [List.filterMap_cons, hG]
      rw [hf, if_neg hj]
      simp only [oneK]
      rw [ih]
      simp
theorem sumW_join (hz : good zs = true) : ∀ (xs ys : List WRow), (∀ t ∈ xs, good t.1 = true ∧ t.1.length = p) → (∀ u ∈ ys, good u.1 = true ∧ u.1.length = q) → sumW (joinL xs ys ps) zs = outX (mJ p q ps) xs ys (raised zs)
  | [], ys, _, _ => by simp [sumW, outX, joinL]
  | t :: xs, ys, h, k => by
    have ih := sumW_join hz xs ys (fun v hv => h v (List.mem_cons_of_mem _ hv)) k
    have e1 : joinL (t :: xs) ys ps = ys.filterMap (joinG ps t) ++ joinL xs ys ps := by simp [joinL]
    have e2 : outX (mJ p q ps) (t :: xs) ys (raised zs) = t.2 * inY (mJ p q ps) (raised t.1) ys (raised zs) + outX (mJ p q ps) xs ys (raised zs) := by simp [outX]
    rw [e1, e2, sumW_append, ih, sumW_in hz t (h t (List.mem_cons_self ..)) ys k]
theorem joinL_row {xs ys : List WRow} (h : ∀ t ∈ xs, good t.1 = true ∧ t.1.length = p) (k : ∀ u ∈ ys, good u.1 = true ∧ u.1.length = q) : ∀ t ∈ joinL xs ys ps, good t.1 = true ∧ t.1.length = joinC p q ps := fun t ht => by
  obtain ⟨a, ha, b, hb, hg⟩ := joinL_mem ht
  obtain ⟨h1, rfl⟩ := joinG_some hg
  have ga := h a ha
  have gb := k b hb
  have hj : (joinZ a.1 b.1 (side ps 1)).length ≤ 6 := by
    simp only [joinOk, Bool.and_eq_true, decide_eq_true_eq] at h1
    exact h1.2
  refine ⟨?_, ?_⟩
  · show good (joinZ a.1 b.1 (side ps 1)) = true
    rw [good_joinZ ga.1 gb.1, decide_eq_true hj]
  · show (joinZ a.1 b.1 (side ps 1)).length = _
    rw [joinZ_len, ga.2, gb.2]; simp [joinC]
theorem tells_prod {f g : List Int → Int} {xs ys : List WRow} (hx : Tells p f xs) (hy : Tells q g ys) : Tells (joinC p q ps) (outX (mJ p q ps) xs ys) (joinW xs ys ps) :=
  tells_put List.Pairwise.nil (fun t ht => by cases ht) (fun t ht => by cases ht) (joinL_row hx.rows hy.rows) fun zs h1 _ => by rw [sumW_join h1 xs ys hx.rows hy.rows, wOf_nil]; omega
/-- How great the weights of a join can be. -/
theorem lst_join {N N' : Nat} {B B' : Int} {xs ys : List WRow} (hx : Lst p N B xs) (hy : Lst q N' B' ys) (h0 : 0 ≤ B) (h0' : 0 ≤ B') : Lst (joinC p q ps) (N * N') (B * B' * (N * N' : Nat)) (joinW xs ys ps) := by
  have hlen : (joinL xs ys ps).length ≤ N * N' := Nat.le_trans (joinL_len xs ys ps) (Nat.mul_le_mul hx.len hy.len)
  have hrow := joinL_row (ps := ps) hx.rows hy.rows
  have hB := Int.mul_nonneg h0 h0'
  have hw : ∀ t ∈ joinL xs ys ps, -(B * B') ≤ t.2 ∧ t.2 ≤ B * B' := fun t ht => by
    obtain ⟨a, ha, b, hb, hg⟩ := joinL_mem ht
    obtain ⟨h1, rfl⟩ := joinG_some hg
    have ga := hx.within a ha
    have gb := hy.within b hb
    exact mul_in ga.1 ga.2 gb.1 gb.2
  refine ⟨?_, putAll_rises List.Pairwise.nil, putAll_nozero (fun t ht => by cases ht), fun t ht => ?_, fun t ht => ?_⟩
  · have := putAll_len (joinL xs ys ps) []
    simp only [List.length_nil] at this
    show (putAll [] (joinL xs ys ps)).length ≤ _
    omega
  · rcases putAll_rows ht with ⟨s, hs, e⟩ | ⟨s, hs, e⟩
    · cases hs
    · rw [← e]; exact hrow s hs
  · have hw2 := wOf_mem (putAll_rises (l := joinL xs ys ps) List.Pairwise.nil) ht
    rw [putAll_wOf t.1 List.Pairwise.nil, wOf_nil] at hw2
    have b2 := sumW_bound (zs := t.1) hB hw
    have b3 : B * B' * ((joinL xs ys ps).length : Int) ≤ B * B' * ((N * N' : Nat) : Int) := Int.mul_le_mul_of_nonneg_left (by exact_mod_cast hlen) hB
    constructor <;> omega
end

end Go.Proofs.Ytmkhdocjabflkaa
