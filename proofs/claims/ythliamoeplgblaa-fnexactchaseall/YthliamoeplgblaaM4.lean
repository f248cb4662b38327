/- Several texts of one proof, in build order: ChP, RowH, RepD, Blk, ChI, AppendAll. -/
import Derived.Test.YthliamoeplgblaaM0
import Derived.Test.YthliamoeplgblaaM3
import Derived.BigQuiet
import Derived.Deep.CutBlock
import Derived.Deep.AppendLies
import Derived.Laws.AppendOwnNone

/- Plain: the chase. -/
namespace Go.Proofs.Ythliamoeplgblaa
open Go.RowKit

/-- The same cells in these columns. -/
def sameC (x y : List Int) : List Int → Bool
  | [] => true
  | k :: ks => decide (x.getD k.toNat 0 = y.getD k.toNat 0) && sameC x y ks
/-- A column, what is greater there, and what is less. -/
abbrev Mrg := Int × Int × Int
def gr (a b : Int) : Int := if a < b then b else a
def ls (a b : Int) : Int := if a < b then a else b
def mrgTo (x y : List Int) : List Int → Option Mrg
  | [] => none
  | k :: ks => if x.getD k.toNat 0 = y.getD k.toNat 0 then mrgTo x y ks else some (k, gr (x.getD k.toNat 0) (y.getD k.toNat 0), ls (x.getD k.toNat 0) (y.getD k.toNat 0))
def mrgBy (d : Dep) (x y : List Int) : Option Mrg := if sameC x y d.1 then mrgTo x y d.2 else none
def mrgRow (d : Dep) (x : List Int) : List (List Int) → Option Mrg
  | [] => none
  | y :: ys => (mrgBy d x y).or (mrgRow d x ys)
def mrgRows (d : Dep) : List (List Int) → Option Mrg
  | [] => none
  | x :: ys => (mrgRow d x ys).or (mrgRows d ys)
def mrgAll (zss : List (List Int)) : List Dep → Option Mrg
  | [] => none
  | d :: ds => (mrgRows d zss).or (mrgAll zss ds)
def mrgIn (m : Mrg) (z : List Int) : List Int := if z.getD m.1.toNat 0 = m.2.1 then z.set m.1.toNat m.2.2 else z
def stepZ (xs : List Dep) (zss : List (List Int)) : Option (List (List Int)) := (mrgAll zss xs).map fun m => zss.map (mrgIn m)

theorem sameC_step {x y cols : List Int} {k : Nat} (h : k < cols.length) : sameC x y (cols.drop k) = (decide (x.getD (cols.getD k 0).toNat 0 = y.getD (cols.getD k 0).toNat 0) && sameC x y (cols.drop (k + 1))) := by
  rw [List.drop_eq_getElem_cons h]
  have e : cols.getD k 0 = cols[k] := by simp [List.getD, h]
  rw [e]; rfl
theorem sameC_done {x y cols : List Int} {n : Nat} (h : cols.length = n) : sameC x y (cols.drop n) = true := by
  rw [List.drop_of_length_le (by omega)]; rfl
theorem sameC_pick (x y cols : List Int) : sameC x y cols = decide (pick x cols = pick y cols) := by
  induction cols with
  | nil => simp [sameC, pick]
  | cons k ks ih =>
    rw [sameC, ih]
    unfold pick
    simp only [List.map_cons, List.cons.injEq]
    rw [Bool.decide_and]
theorem mrgTo_step {x y cols : List Int} {k : Nat} (h : k < cols.length) : mrgTo x y (cols.drop k) = if x.getD (cols.getD k 0).toNat 0 = y.getD (cols.getD k 0).toNat 0 then mrgTo x y (cols.drop (k + 1)) else some (cols.getD k 0, gr (x.getD (cols.getD k 0).toNat 0) (y.getD (cols.getD k 0).toNat 0), ls (x.getD (cols.getD k 0).toNat 0) (y.getD (cols.getD k 0).toNat 0)) := by
  rw [List.drop_eq_getElem_cons h]
  have e : cols.getD k 0 = cols[k] := by simp [List.getD, h]
  rw [e]; rfl
theorem mrgTo_done {x y cols : List Int} {n : Nat} (h : cols.length = n) : mrgTo x y (cols.drop n) = none := by
  rw [List.drop_of_length_le (by omega)]; rfl
theorem mrgRow_step {d : Dep} {x : List Int} {ys : List (List Int)} {k : Nat} {y : List Int} (h : ys[k]? = some y) : mrgRow d x (ys.drop k) = (mrgBy d x y).or (mrgRow d x (ys.drop (k + 1))) := by
  obtain ⟨hk, rfl⟩ := List.getElem?_eq_some_iff.1 h
  rw [List.drop_eq_getElem_cons hk]; rfl
theorem mrgRows_step {d : Dep} {ys : List (List Int)} {k : Nat} {y : List Int} (h : ys[k]? = some y) : mrgRows d (ys.drop k) = (mrgRow d y (ys.drop (k + 1))).or (mrgRows d (ys.drop (k + 1))) := by
  obtain ⟨hk, rfl⟩ := List.getElem?_eq_some_iff.1 h
  rw [List.drop_eq_getElem_cons hk]; rfl
theorem mrgAll_step {zss : List (List Int)} {ds : List Dep} {k : Nat} {d : Dep} (h : ds[k]? = some d) : mrgAll zss (ds.drop k) = (mrgRows d zss).or (mrgAll zss (ds.drop (k + 1))) := by
  obtain ⟨hk, rfl⟩ := List.getElem?_eq_some_iff.1 h
  rw [List.drop_eq_getElem_cons hk]; rfl
theorem mrgRow_done {d : Dep} {x : List Int} {ys : List (List Int)} {n : Nat} (h : ys.length ≤ n) : mrgRow d x (ys.drop n) = none := by rw [List.drop_of_length_le h]; rfl
theorem mrgRows_done {d : Dep} {ys : List (List Int)} {n : Nat} (h : ys.length ≤ n) : mrgRows d (ys.drop n) = none := by rw [List.drop_of_length_le h]; rfl
theorem mrgAll_done {zss : List (List Int)} {ds : List Dep} {n : Nat} (h : ds.length ≤ n) : mrgAll zss (ds.drop n) = none := by rw [List.drop_of_length_le h]; rfl

/-- What a merging is of: a column of To, and two rows that are unlike there. -/
def MrgOf (m : Mrg) (x y : List Int) : Prop := x.getD m.1.toNat 0 ≠ y.getD m.1.toNat 0 ∧ m.2.1 = gr (x.getD m.1.toNat 0) (y.getD m.1.toNat 0) ∧ m.2.2 = ls (x.getD m.1.toNat 0) (y.getD m.1.toNat 0)
theorem mrgTo_of {x y cols : List Int} {m : Mrg} (h : mrgTo x y cols = some m) : m.1 ∈ cols ∧ MrgOf m x y := by
  induction cols with
  | nil => cases h
  | cons k ks ih =>
    rw [mrgTo] at h
    split at h
    · obtain ⟨h1, h2⟩ := ih h; exact ⟨List.mem_cons_of_mem _ h1, h2⟩
    · rename_i hne
      obtain rfl := Option.some.inj h
      exact ⟨List.mem_cons_self, hne, rfl, rfl⟩
theorem mrgBy_of {d : Dep} {x y : List Int} {m : Mrg} (h : mrgBy d x y = some m) : m.1 ∈ d.2 ∧ MrgOf m x y := by
  unfold mrgBy at h
  split at h
  · exact mrgTo_of h
  · cases h
theorem mrgRow_of {d : Dep} {x : List Int} {ys : List (List Int)} {m : Mrg} (h : mrgRow d x ys = some m) : m.1 ∈ d.2 ∧ ∃ y ∈ ys, MrgOf m x y := by
  induction ys with
  | nil => cases h
  | cons y ys ih =>
    rw [mrgRow] at h
    cases hb : mrgBy d x y with
    | some m' =>
      rw [hb] at h
      obtain rfl := Option.some.inj h
      obtain ⟨h1, h2⟩ := mrgBy_of hb
      exact ⟨h1, y, List.mem_cons_self, h2⟩
    | none =>
      rw [hb] at h
      obtain ⟨h1, y', h2, h3⟩ := ih h
      exact ⟨h1, y', List.mem_cons_of_mem _ h2, h3⟩
theorem mrgRows_of {d : Dep} {ys : List (List Int)} {m : Mrg} (h : mrgRows d ys = some m) : m.1 ∈ d.2 ∧ ∃ x ∈ ys, ∃ y ∈ ys, MrgOf m x y := by
  induction ys with
  | nil => cases h
  | cons x ys ih =>
    rw [mrgRows] at h
    cases hb : mrgRow d x ys with
    | some m' =>
      rw [hb] at h
      obtain rfl := Option.some.inj h
      obtain ⟨h1, y, h2, h3⟩ := mrgRow_of hb
      exact ⟨h1, x, List.mem_cons_self, y, List.mem_cons_of_mem _ h2, h3⟩
    | none =>
      rw [hb] at h
      obtain ⟨h1, x', h2, y', h3, h4⟩ := ih h
      exact ⟨h1, x', List.mem_cons_of_mem _ h2, y', List.mem_cons_of_mem _ h3, h4⟩
theorem mrgAll_of {zss : List (List Int)} {ds : List Dep} {m : Mrg} (h : mrgAll zss ds = some m) : (∃ d ∈ ds, m.1 ∈ d.2) ∧ ∃ x ∈ zss, ∃ y ∈ zss, MrgOf m x y := by
  induction ds with
  | nil => cases h
  | cons d ds ih =>
    rw [mrgAll] at h
    cases hb : mrgRows d zss with
    | some m' =>
      rw [hb] at h
      obtain rfl := Option.some.inj h
      obtain ⟨h1, h2⟩ := mrgRows_of hb
      exact ⟨⟨d, List.mem_cons_self, h1⟩, h2⟩
    | none =>
      rw [hb] at h
      obtain ⟨⟨d', h1, h2⟩, h3⟩ := ih h
      exact ⟨⟨d', List.mem_cons_of_mem _ h1, h2⟩, h3⟩

theorem risB_mem {c p : Int} {l : List Int} (h : risB c p l = true) : ∀ x ∈ l, p < x ∧ x < c := by
  induction l generalizing p with
  | nil => intro x hx; cases hx
  | cons z zs ih =>
    simp only [risB, Bool.and_eq_true, decide_eq_true_eq] at h
    intro x hx
    rcases List.mem_cons.1 hx with rfl | hx
    · exact ⟨h.1, h.2.1⟩
    · have := ih h.2.2 x hx; omega
theorem risB_len {c p : Int} {l : List Int} (h : risB c p l = true) (hp : -1 ≤ p) : (l.length : Int) + p + 1 ≤ c ∨ l = [] := by
  induction l generalizing p with
  | nil => exact .inr rfl
  | cons z zs ih =>
    simp only [risB, Bool.and_eq_true, decide_eq_true_eq] at h
    left
    rcases ih h.2.2 (by omega) with h' | rfl
    · simp only [List.length_cons]; omega
    · simp; omega
theorem ris_cols {q : Nat} {l : List Int} (hq : q ≤ 6) (h : ris (q : Int) l = true) : colsOk l q = true := by
  refine colsOk_of ?_ (fun j hj => ?_)
  · rcases risB_len h (by omega) with h' | rfl
    · omega
    · simp
  · have h1 : l.getD j 0 ∈ l := by rw [show l.getD j 0 = l[j] by simp [List.getD, hj]]; exact List.getElem_mem hj
    have := risB_mem h _ h1; omega

theorem goodDeps_C {l : List Dep} {c : Int} (h : goodDeps l c = true) : 1 ≤ c ∧ c ≤ 6 ∧ l.length ≤ 10 := by
  simp only [goodDeps, Bool.and_eq_true, decide_eq_true_eq] at h; exact ⟨h.1, h.2.1, h.2.2.1⟩
theorem goodDeps_dep {l : List Dep} {c : Int} (h : goodDeps l c = true) {d : Dep} (hd : d ∈ l) : ris c d.1 = true ∧ ris c d.2 = true := by
  simp only [goodDeps, Bool.and_eq_true, decide_eq_true_eq, allDep, List.all_eq_true, goodDep] at h
  exact h.2.2.2 d hd

theorem mrgIn_length (m : Mrg) (z : List Int) : (mrgIn m z).length = z.length := by unfold mrgIn; split <;> simp
theorem mrgIn_getD (m : Mrg) (z : List Int) (k : Nat) (hk : k < z.length) : (mrgIn m z).getD k 0 = if k = m.1.toNat ∧ z.getD k 0 = m.2.1 then m.2.2 else z.getD k 0 := by
  unfold mrgIn
  by_cases h1 : z.getD m.1.toNat 0 = m.2.1
  · rw [if_pos h1]
    by_cases h2 : k = m.1.toNat
    · rw [if_pos ⟨h2, by rw [h2]; exact h1⟩, h2]
      have : m.1.toNat < z.length := by omega
      simp [List.getD, this]
    · rw [if_neg (fun h => h2 h.1)]
      simp [List.getD, List.getElem?_set_ne (Ne.symm h2)]
  · rw [if_neg h1]
    split
    · rename_i h; exact absurd (h.1 ▸ h.2) h1
    · rfl

/-- A step of a good tableau. -/
structure MrgOk (C : Int) (zss : List (List Int)) (m : Mrg) : Prop where
  col : 0 ≤ m.1 ∧ m.1 < C
  less : 0 ≤ m.2.2 ∧ m.2.2 < m.2.1 ∧ m.2.1 ≤ 100000
  there : ∃ z ∈ zss, z.getD m.1.toNat 0 = m.2.1
theorem mrg_ok {C : Int} {zss : List (List Int)} {ds : List Dep} {m : Mrg} (ht : tbB C zss = true) (hd : goodDeps ds C = true) (h : mrgAll zss ds = some m) : MrgOk C zss m := by
  obtain ⟨⟨d, hd1, hd2⟩, x, hx, y, hy, hne, hg, hl⟩ := mrgAll_of h
  have hc := risB_mem (goodDeps_dep hd hd1).2 _ hd2
  obtain ⟨i, hi, rfl⟩ := List.getElem_of_mem hx
  obtain ⟨j, hj, rfl⟩ := List.getElem_of_mem hy
  have rx := tbB_row ht (List.getElem?_eq_getElem hi)
  have ry := tbB_row ht (List.getElem?_eq_getElem hj)
  have lx := rowOk_len rx
  have ly := rowOk_len ry
  have cx := rowOk_cell rx m.1.toNat (by omega)
  have cy := rowOk_cell ry m.1.toNat (by omega)
  refine ⟨by omega, ?_, ?_⟩
  · rw [hg, hl]; unfold gr ls; split <;> omega
  · rw [hg]; unfold gr
    split
    · exact ⟨_, hy, rfl⟩
    · exact ⟨_, hx, rfl⟩

theorem mrgIn_ok {C : Int} {zss : List (List Int)} {m : Mrg} {z : List Int} (hm : MrgOk C zss m) (hz : rowOk C z = true) : rowOk C (mrgIn m z) = true := by
  have hl := rowOk_len hz
  have hg := good_len (rowOk_good hz)
  have hc : ∀ k, k < z.length → 0 ≤ (mrgIn m z).getD k 0 ∧ (mrgIn m z).getD k 0 ≤ 100000 := fun k hk => by
    rw [mrgIn_getD m z k hk]
    have := rowOk_cell hz k hk
    have := hm.less
    split <;> omega
  refine rowOk_of (good_of (by rw [mrgIn_length]; exact hg) (fun k hk => ?_)) (by rw [mrgIn_length]; exact hl) (fun k hk => ?_)
  · have := hc k (by rwa [mrgIn_length] at hk); omega
  · have := hc k (by rwa [mrgIn_length] at hk); omega
theorem step_good {C : Int} {zss yss : List (List Int)} {ds : List Dep} (ht : tbB C zss = true) (hd : goodDeps ds C = true) (h : stepZ ds zss = some yss) : tbB C yss = true := by
  unfold stepZ at h
  cases hm : mrgAll zss ds with
  | none => rw [hm] at h; cases h
  | some m =>
    rw [hm] at h
    obtain rfl := Option.some.inj h
    have ho := mrg_ok ht hd hm
    refine tbB_of (tbB_C ht) (by simpa using tbB_n ht) (fun z hz => ?_)
    obtain ⟨y, hy, rfl⟩ := List.mem_map.1 hz
    obtain ⟨i, hi, rfl⟩ := List.getElem_of_mem hy
    exact mrgIn_ok ho (tbB_row ht (List.getElem?_eq_getElem hi))

/-- All cells together: each step makes it less. -/
def sumZ (zss : List (List Int)) : Int := (zss.map List.sum).sum
theorem sum_set (z : List Int) (k : Nat) (v : Int) (h : k < z.length) : (z.set k v).sum = z.sum - z.getD k 0 + v := by
  induction z generalizing k with
  | nil => simp at h
  | cons y z ih =>
    cases k with
    | zero => simp; omega
    | succ k =>
      have := ih k (by simpa using h)
      simp only [List.set_cons_succ, List.sum_cons, this]
      simp; omega
theorem mrgIn_sum {m : Mrg} {z : List Int} (h : m.1.toNat < z.length) (hl : m.2.2 < m.2.1) : (mrgIn m z).sum ≤ z.sum ∧ (z.getD m.1.toNat 0 = m.2.1 → (mrgIn m z).sum < z.sum) := by
  unfold mrgIn
  split
  · rename_i he; rw [sum_set z _ _ h, he]; omega
  · rename_i he; exact ⟨Int.le_refl _, fun h => absurd h he⟩
theorem sumZ_map {m : Mrg} : ∀ {zss : List (List Int)}, (∀ z ∈ zss, m.1.toNat < z.length) → m.2.2 < m.2.1 → sumZ (zss.map (mrgIn m)) ≤ sumZ zss ∧ ((∃ z ∈ zss, z.getD m.1.toNat 0 = m.2.1) → sumZ (zss.map (mrgIn m)) < sumZ zss)
  | [], _, _ => by simp [sumZ]
  | z :: zss, h, hl => by
    have ih := sumZ_map (zss := zss) (fun y hy => h y (List.mem_cons_of_mem _ hy)) hl
    have h0 := mrgIn_sum (h z List.mem_cons_self) hl
    have e : ∀ (a : List Int) (l : List (List Int)), sumZ (a :: l) = a.sum + sumZ l := fun a l => by simp [sumZ]
    rw [List.map_cons, e, e]
    refine ⟨by omega, fun ⟨y, hy, hv⟩ => ?_⟩
    rcases List.mem_cons.1 hy with rfl | hy
    · have := h0.2 hv; omega
    · have := ih.2 ⟨y, hy, hv⟩; omega
theorem step_sum {C : Int} {zss yss : List (List Int)} {ds : List Dep} (ht : tbB C zss = true) (hd : goodDeps ds C = true) (h : stepZ ds zss = some yss) : sumZ yss < sumZ zss := by
  unfold stepZ at h
  cases hm : mrgAll zss ds with
  | none => rw [hm] at h; cases h
  | some m =>
    rw [hm] at h
    obtain rfl := Option.some.inj h
    have ho := mrg_ok ht hd hm
    refine (sumZ_map (fun z hz => ?_) ho.less.2.1).2 ho.there
    obtain ⟨i, hi, rfl⟩ := List.getElem_of_mem hz
    have := rowOk_len (tbB_row ht (List.getElem?_eq_getElem hi))
    have := ho.col
    omega
theorem sum_bound {z : List Int} (h : ∀ k, k < z.length → 0 ≤ z.getD k 0 ∧ z.getD k 0 ≤ 100000) : 0 ≤ z.sum ∧ z.sum ≤ z.length * 100000 := by
  induction z with
  | nil => simp
  | cons y z ih =>
    have h0 := h 0 (by simp)
    have := ih (fun k hk => by have := h (k + 1) (by simpa using hk); simpa using this)
    simp at h0
    simp only [List.sum_cons, List.length_cons]
    omega
theorem sumZ_bound {C : Int} {zss : List (List Int)} (h : ∀ z ∈ zss, rowOk C z = true) : 0 ≤ sumZ zss ∧ sumZ zss ≤ zss.length * 600000 := by
  induction zss with
  | nil => simp [sumZ]
  | cons z zss ih =>
    have ih := ih (fun y hy => h y (List.mem_cons_of_mem _ hy))
    have hz := h z List.mem_cons_self
    have h0 := sum_bound (fun k hk => rowOk_cell hz k hk)
    have := good_len (rowOk_good hz)
    have e : sumZ (z :: zss) = z.sum + sumZ zss := by simp [sumZ]
    rw [e]
    simp only [List.length_cons]
    omega
theorem tbB_sumZ {C : Int} {zss : List (List Int)} (h : tbB C zss = true) : 0 ≤ sumZ zss ∧ sumZ zss ≤ 4800000 := by
  have h1 := tbB_n h
  have h2 : zss.all (rowOk C) = true := by simp only [tbB, Bool.and_eq_true] at h; exact h.2
  have := sumZ_bound (List.all_eq_true.1 h2)
  omega

end Go.Proofs.Ythliamoeplgblaa

/- Contracts of the laws' helpers over rows: szRow, toRow, eqRow. -/
namespace Go.Proofs.Ythliamoeplgblaa
open Go.RowKit

theorem szRow_any (a : Option Addr) (n c : Nat) (l : Int) (w : World) (hn : n ≤ 9223372036854775807) (h0 : 0 ≤ l) (h1 : l ≤ 1048576) :
    Calls Try.prog 57 #[.agg #[.slice a n c], .int .i64 l] w fun e w' => e = .returned (.int .i64 (if l < n then -1 else l - n)) ∧ Below w.heap.size w w' := by
  by_cases h : l < n
  · go_enter Try.func57, Try.ntmps57
    go_wp2_with (go_at_call 58; refine (szIntS_any _ _ _ _ _ hn h0 h1).mono ?_; rintro e w' ⟨rfl, rfl⟩; rw [if_pos h])
    go_ret
    exact ⟨by simp, (Below.refl _ _).alloc (Nat.le_refl _) _⟩
  · have h' : ¬ l - (n : Int) < 0 := by omega
    go_enter Try.func57, Try.ntmps57
    go_wp2_with (go_at_call 58; refine (szIntS_any _ _ _ _ _ hn h0 h1).mono ?_; rintro e w' ⟨rfl, rfl⟩; rw [if_neg h])
    go_ret
    exact ⟨by simp, (Below.refl _ _).alloc (Nat.le_refl _) _⟩

theorem toRow_any (a : Option Addr) (n c : Nat) (zs : List Int) (w : World) (hz : zs.length = n) (hn : n ≤ 1048576) (ha : At w a zs) :
    Calls Try.prog 63 #[.agg #[.slice a n c]] w fun e w' => ∃ g, e = .returned (.agg #[.slice (some ⟨g, 0, none⟩) n n]) ∧
      w'.ownsRow w.heap.size 3 1 (.slice (some ⟨g, 0, none⟩) n n) n (zs.map (.int .i64)) ∧ Below w.heap.size w w' := by
  go_enter Try.func63, Try.ntmps63
  go_wp2_with (go_at_call 64; refine (toIntS_any _ _ _ zs _ hz hn ?_).mono ?_)
  · exact ((ha.alloc _).alloc _).alloc _
  · rintro e w' ⟨rfl, hown, hb⟩
    obtain ⟨hc, hf⟩ := bcell hb
    have hz' : w.heap.size + 2 < w'.heap.size := by have := hb.size; simp at this; omega
    simp only [World.size_alloc] at hc hf
    go_wp2
    refine bodyPost_ret (v := .agg #[.slice (some ⟨w.heap.size + 1 + 1 + 1, 0, none⟩) n n]) (by simp [results, Try.results63, go_sem, hc]) rfl ⟨_, rfl, ?_, ?_⟩
    · simp only [World.size_alloc] at hown
      exact owns_mono (ownsRow_setCell_below (ownsRow_setCell_below hown (by simp) _) (by simp) _) (by omega)
    · exact ((((((Below.refl _ _).alloc (Nat.le_refl _) _).alloc (by simp) _).alloc (by simp; omega) _).trans (hb.mono (by simp; omega))).setCell (by simp; omega) _).setCell (by simp) _

theorem eqRow_any (a a' : Option Addr) (n n' c c' : Nat) (zs zs' : List Int) (w : World) (hz : zs.length = n) (hz' : zs'.length = n') (hn : n ≤ 1048576) (hn' : n' ≤ 1048576) (ha : At w a zs) (ha' : At w a' zs') :
    Calls Try.prog 68 #[.agg #[.slice a n c], .agg #[.slice a' n' c']] w fun e w' => e = .returned (.bool (decide (zs = zs'))) ∧ Below w.heap.size w w' := by
  have HA := (ha.alloc (.cells #[.slice a n c] 70)).alloc (.cells #[.slice a' n' c'] 70)
  have HA' := (ha'.alloc (.cells #[.slice a n c] 70)).alloc (.cells #[.slice a' n' c'] 70)
  clear ha ha'
  have hd : ∀ d : Bool, decide (zs = zs') = d → Calls Try.prog 68 #[.agg #[.slice a n c], .agg #[.slice a' n' c']] w fun e w' => e = .returned (.bool d) ∧ Below w.heap.size w w' := by
    intro d hd
    have HD : Hid (decide (zs = zs') = d) := hd
    clear hd
    cases d
    all_goals
      go_enter Try.func68, Try.ntmps68
      go_wp2_with (go_at_call 69; refine (eqIntS_any _ _ _ _ _ _ zs zs' _ hz hz' hn hn' HA HA').mono ?_; rintro e w' ⟨rfl, hb⟩; rw [HD.out])
      go_ret
      exact ⟨rfl, (((Below.refl _ _).alloc (Nat.le_refl _) _).alloc (by simp) _).trans (hb.mono (by simp; omega))⟩
  exact hd _ rfl

end Go.Proofs.Ythliamoeplgblaa

/- The laws' copies of slices of numbers, of slices of numbers, as things that are owned. -/
namespace Go.Proofs.Ythliamoeplgblaa
open Go.RowKit

theorem toInts_rep (a : Option Addr) (n c : Nat) (zs : List Int) (w : World) (hz : zs.length = n) (hn : n ≤ 1048576) (ha : At w a zs) :
    Calls Try.prog 64 #[.slice a n c] w fun e w' => ∃ g, e = .returned (.slice (some ⟨g, 0, none⟩) n n) ∧ RInts.Own w' (From w.heap.size w'.heap.size) [.slice (some ⟨g, 0, none⟩) n n] zs ∧ Below w.heap.size w w' :=
  (toIntS_any a n c zs w hz hn ha).mono fun _ _ ⟨h1, h2, h3⟩ => ⟨_, h1, RInts.of_owns hz (by omega) h2, h3⟩
end Go.Proofs.Ythliamoeplgblaa

/- A block of cells that a function holds: what is stored, what stays. -/
namespace Go.Proofs.Ythliamoeplgblaa
open Go.RowKit

theorem blk_set {w : World} {g : Nat} {cs : Array Value} {t : TypeId} (h : w.heap[g]? = some (.cells cs t (0, 0))) (k : Nat) (v : Value) : (w.setCell ⟨g, k, none⟩ v).heap[g]? = some (.cells (cs.setIfInBounds k v) t (0, 0)) := heap_setCell_same w g k cs t v h
theorem blk_cell {w : World} {g : Nat} {cs : Array Value} {t : TypeId} (h : w.heap[g]? = some (.cells cs t (0, 0))) (k : Nat) {v : Value} (hv : cs[k]? = some v) : w.cell? ⟨g, k, none⟩ = some v := by
  rw [cell_of_row w g k _ t (0, 0) h]; exact hv
theorem blk_frozen {w : World} {g : Nat} {cs : Array Value} {t : TypeId} (h : w.heap[g]? = some (.cells cs t (0, 0))) (k : Nat) : w.frozen? ⟨g, k, none⟩ = false := frozen_of_row w g k _ t h
theorem blk_below {w w' : World} {g : Nat} {o : Obj} (h : w.heap[g]? = some o) (hb : Below w.heap.size w w') : w'.heap[g]? = some o := (hb.block g (Array.getElem?_eq_some_iff.1 h).1).trans h
theorem blk_other {w : World} {g : Nat} {o : Obj} (h : w.heap[g]? = some o) {a : Addr} (ha : g ≠ a.block) (v : Value) : (w.setCell a v).heap[g]? = some o := (Below.heap_setCell w a v g ha).trans h
theorem blk_alloc {w : World} {g : Nat} {o : Obj} (h : w.heap[g]? = some o) (o' : Obj) : (w.alloc o').heap[g]? = some o := (Below.heap_alloc w o' g (Array.getElem?_eq_some_iff.1 h).1).trans h

end Go.Proofs.Ythliamoeplgblaa

/- Contracts of impl.symbolAt, impl.sameCells. -/
namespace Go.Proofs.Ythliamoeplgblaa
open Go.RowKit

set_option maxHeartbeats 1000000 in
theorem symbolAt_any (a : Option Addr) (n c : Nat) (zs : List Int) (k : Int) (w : World) (hz : zs.length = n) (hn : n ≤ 1048576) (h0 : 0 ≤ k) (h1 : k < n) (ha : At w a zs) :
    Calls Try.prog 67 #[.agg #[.slice a n c], .int .i64 k] w fun e w' => e = .returned (.agg #[.int .i64 k, .int .i64 (zs.getD k.toNat 0)]) ∧ Below w.heap.size w w' := by
  obtain ⟨j, rfl⟩ : ∃ j : Nat, k = (j : Int) := ⟨k.toNat, by omega⟩
  have hj : j < n := by omega
  obtain ⟨W, hW⟩ : ∃ W, W = (w.alloc (.cells #[.slice a n c] 70)).alloc (.cells #[.int .i64 0, .int .i64 0] 63) := ⟨_, rfl⟩
  have B0 : Below w.heap.size w W := by rw [hW]; exact ((Below.refl _ _).alloc (Nat.le_refl _) _).alloc (by simp) _
  obtain ⟨b, off, rfl, hb, hc⟩ := (ha.below B0).some (by omega)
  have hcx := hc j (by omega)
  have c0 : W.cell? ⟨w.heap.size, 0, none⟩ = some (.slice (some ⟨b, off, none⟩) n c) := by rw [hW]; simp
  have q1 : W.heap[w.heap.size + 1]? = some (.cells #[.int .i64 0, .int .i64 0] 63 (0, 0)) := by
    rw [hW]
    have := heap_alloc_new (w.alloc (.cells #[.slice (some ⟨b, off, none⟩) n c] 70)) (.cells #[.int .i64 0, .int .i64 0] 63)
    rwa [World.size_alloc] at this
  have e0 := blk_cell q1 0 (v := .int .i64 0) rfl
  have e1 := blk_cell q1 1 (v := .int .i64 0) rfl
  have f0 := blk_frozen q1 0
  have f1 := blk_frozen q1 1
  rw [show (j : Int).toNat = j by omega]
  obtain ⟨x, hx⟩ : ∃ x, x = zs.getD j 0 := ⟨_, rfl⟩
  rw [← hx] at hcx ⊢
  clear hx hc ha q1
  go_enter Try.func67, Try.ntmps67
  go_upto_region 1 with fail
  rw [← hW]
  clear hW
  go_wp2
  refine bodyPost_ret (v := .agg #[.int .i64 j, .int .i64 x]) (by simp [results, Try.results67, go_sem, e0, e1]) rfl ⟨rfl, ?_⟩
  exact (B0.setCell (by simp) _).setCell (by simp) _

set_option maxHeartbeats 2000000 in
theorem sameCells_any (xa : Option Addr) (q xc : Nat) (x : List Int) (ya : Option Addr) (yc : Nat) (y : List Int) (a : Option Addr) (n c : Nat) (cols : List Int) (w : World) (hx : x.length = q) (hy : y.length = q) (hq : q ≤ 1048576) (hz : cols.length = n)
    (hok : colsOk cols q = true) (hax : At w xa x) (hay : At w ya y) (ha : At w a cols) :
    Calls Try.prog 80 #[.agg #[.slice xa q xc], .agg #[.slice ya q yc], .slice a n c] w fun e w' => e = .returned (.bool (sameC x y cols)) ∧ Below w.heap.size w w' := by
  have hn6 := colsOk_len hok
  obtain ⟨W, hW⟩ : ∃ W, W = (w.alloc (.cells #[.slice xa q xc] 70)).alloc (.cells #[.slice ya q yc] 70) := ⟨_, rfl⟩
  have B0 : Below w.heap.size w W := by rw [hW]; exact ((Below.refl _ _).alloc (Nat.le_refl _) _).alloc (by simp) _
  have c0 : W.cell? ⟨w.heap.size, 0, none⟩ = some (.slice xa q xc) := by rw [hW]; simp
  have c1 : W.cell? ⟨w.heap.size + 1, 0, none⟩ = some (.slice ya q yc) := by rw [hW]; simp
  have HX := Hid.mk (hax.below B0)
  have HY := Hid.mk (hay.below B0)
  have HA := Hid.mk (ha.below B0)
  clear hax hay ha
  go_enter Try.func80, Try.ntmps80
  go_wp2_with fail
  rw [← hW]
  clear hW
  go_loopw [11] (fun i wr => ∃ k : Nat, k ≤ n ∧ i = .int .i64 k ∧ sameC x y cols = sameC x y (cols.drop k) ∧ Below W.heap.size W wr) (fun i _ => n - (intOf i).toNat)
  case atStart => exact ⟨0, Nat.zero_le _, rfl, by simp, Below.refl _ _⟩
  case round =>
    obtain ⟨k, hk, rfl, hs, hbw⟩ := hrel
    have d0 := cell_later hbw c0
    have d1 := cell_later hbw c1
    have BW : Below w.heap.size w wr := B0.trans (hbw.mono B0.size)
    by_cases hlt : k < n
    · obtain ⟨b, off, rfl, _, hc⟩ := (HA.out.below hbw).some (by omega)
      have hcx := hc k (by omega)
      have hin := colsOk_at hok k (by omega)
      rw [sameC_step (by omega)] at hs
      obtain ⟨v, hv⟩ : ∃ v, cols.getD k 0 = v := ⟨_, rfl⟩
      rw [hv] at hcx hin hs
      obtain ⟨j, rfl⟩ : ∃ j : Nat, v = (j : Int) := ⟨v.toNat, by omega⟩
      have hj : j < q := by omega
      obtain ⟨b1, off1, rfl, _, hc1⟩ := (HX.out.below hbw).some (by omega)
      obtain ⟨b2, off2, rfl, _, hc2⟩ := (HY.out.below hbw).some (by omega)
      have hx1 := hc1 j (by omega)
      have hy1 := hc2 j (by omega)
      rw [show (j : Int).toNat = j by omega] at hs
      obtain ⟨u, hu⟩ : ∃ u, x.getD j 0 = u := ⟨_, rfl⟩
      obtain ⟨u', hu'⟩ : ∃ u, y.getD j 0 = u := ⟨_, rfl⟩
      rw [hu] at hx1 hs
      rw [hu'] at hy1 hs
      have hki : (k : Int) < (n : Int) := by omega
      have hji : (j : Int) < (q : Int) := by omega
      have HS := Hid.mk hs
      clear hs hc hc1 hc2 hu hu' hv hin
      by_cases e : u = u'
      · have HE : Hid (sameC x y cols = sameC x y (cols.drop (k + 1))) := by show _ = _; rw [HS.out, decide_eq_true e, Bool.true_and]
        have hne : (u != u') = false := by simp [e]
        clear e
        go_wp2_with fail
        go_quiet (fail)
        go_wp2
        go_roundw
        case rel => exact ⟨k + 1, by omega, by go_num, HE.out, by first | exact hbw | exact below_drewN hbw _⟩
        case measure => simp [intOf]; omega
      · have HE : Hid (sameC x y cols = false) := by show _ = _; rw [HS.out, decide_eq_false e, Bool.false_and]
        have hne : (u != u') = true := by simp [e]
        clear e
        go_wp2_with fail
        go_quiet (fail)
        go_wp2
        go_ret
        exact ⟨by rw [HE.out]; rfl, by first | exact BW | exact below_drewN BW _⟩
    · obtain rfl : k = n := by omega
      have HE : Hid (sameC x y cols = true) := by show _ = _; rw [hs]; exact sameC_done hz
      clear hs
      go_wp2
      go_ret
      exact ⟨by rw [HE.out]; rfl, BW⟩

end Go.Proofs.Ythliamoeplgblaa

/- 'append(out, xs...)': out the call's own, xs whatever slice of ints: nil, empty or not; and a variable of a row behind the store. -/
namespace Go.Proofs.Ythliamoeplgblaa
open Go.RowKit

theorem newcell (w : World) (v : Value) (t : TypeId) : (w.alloc (.cells #[v] t)).cell? ⟨w.heap.size, 0, none⟩ = some v := by simp
theorem newfrozen (w : World) (v : Value) (t : TypeId) : (w.alloc (.cells #[v] t)).frozen? ⟨w.heap.size, 0, none⟩ = false := by simp

theorem cell_set {w : World} {a : Addr} {u : Value} (h : w.cell? a = some u) (v : Value) : (w.setCell a v).cell? a = some v := World.cell?_setCell_same' w a v (by simp [h])
theorem size_lt (w : World) (o : Obj) : w.heap.size < (w.alloc o).heap.size := by simp
theorem lt_set {w : World} {a : Addr} {u : Value} (h : w.cell? a = some u) (v : Value) : a.block < (w.setCell a v).heap.size := by
  have := World.block_lt_of_cell? _ _ h
  simpa [World.setCell] using this
theorem keep_far {w : World} {b b' o o' : Nat} {v u : Value} (h : w.cell? ⟨b, o, none⟩ = some v) (hne : b ≠ b') : (w.setCell ⟨b', o', none⟩ u).cell? ⟨b, o, none⟩ = some v :=
  (World.cell?_of_block (Below.heap_setCell w ⟨b', o', none⟩ u b hne)).trans h

theorem owns_slice {w : World} {base : Nat} {e : TypeId} {size : Nat} {v : Value} {n : Nat} {xs : List Value} (h : w.ownsRow base e size v n xs) : ∃ r cap, v = .slice r n cap := by
  rcases h.2 with ⟨rfl, rfl⟩ | ⟨g, cap, cur, rfl, _⟩
  · exact ⟨none, 0, rfl⟩
  · exact ⟨_, cap, rfl⟩

theorem wpList_append_all {P : Program} {w : World} {ops : Array Oper} {rest : List Oper} {o : Oper} {a : Act} {Q : Exit → Act → World → Prop} (hgd : o.guard = none) (s x : Operand) (t : TypeId)
    (ho : o.op = .call { callee := .builtin .append, args := #[s, x], argTypes := #[t, t] })
    (base : Nat) (e : TypeId) (i : TypeInfo) (z : Value) (bytes : Nat) (ht : P.underlying t = some (.slice e)) (hi : P.info? e = some i) (hz : i.zero = some z)
    (hsize : i.size = 1) (hby : i.bytes = bytes) (hzs : z.cells.size = 1)
    (v : Value) (n : Nat) (xs : List Value) (hs : a.eval s = v) (hown : w.ownsRow base e 1 v n xs)
    (ao : Option Addr) (m c : Nat) (zs : List Int) (hx : a.eval x = .slice ao m c) (hl : zs.length = m) (hat : At w ao zs) (hnil : ao = none → c = 0)
    (h63 : n + m ≤ maxLen) (hbytes : (n + m) * bytes ≤ 140737488355328) (hbase : base ≤ w.heap.size)
    (h : ∀ r cap w', w'.ownsRow base e 1 (.slice r (n + m) cap) (n + m) (xs ++ zs.map (.int .i64)) → w.grownBy w' v.ownBlock → wpList P ops Q rest (a.put o.dst (.slice r (n + m) cap)) w') : wpList P ops Q (o :: rest) a w := by
  cases ao with
  | none =>
    have hc := hnil rfl
    have hzs' : zs = [] := by
      rcases hat with h | ⟨b, off, h, _⟩
      · exact h
      · cases h
    subst hzs' hc
    simp at hl
    subst hl
    refine wpList_append_own_none hgd s x t ho base e i 1 ht hi v n xs hs hown hx ?_
    obtain ⟨r, cap, rfl⟩ := owns_slice hown
    have := h r cap w (by simpa using hown) (World.grownBy.refl _ _)
    simpa using this
  | some ad =>
    refine wpList_append_own w hgd s x t ho base e i z 1 bytes ht hi hz hsize hby hzs (by decide) v n xs hs hown ad m c (zs.map (.int .i64)) hx (by simpa using hl) ?_ ?_ h63 hbytes hbase ?_
    · intro j u hj
      have hjl : j < zs.length := by
        have := (List.getElem?_eq_some_iff.1 hj).1
        simpa using this
      obtain ⟨b, off, he, _, hc⟩ := hat.some (by omega)
      simp only [Option.some.injEq] at he
      subst he
      rw [Addr.add_lit, hc j hjl]
      simpa [List.getD, hjl] using hj
    · intro u hu
      obtain ⟨y, _, rfl⟩ := List.mem_map.1 hu
      rfl
    · intro v' w' h2 h3 _
      obtain ⟨r, cap, rfl⟩ := owns_slice h2
      exact h r cap w' h2 h3

/-- Behind 'x.f = <a slice that the call owns>'. -/
theorem RowVar.put {w w1 : World} {R : Nat} {t : TypeId} {base : Nat} {e : TypeId} {a r : Option Addr} {n c k cap : Nat} {zs ys : List Int} (h : RowVar w R t base e a n c zs) (hl : ys.length = k)
    (hown : w1.ownsRow base e 1 (.slice r k cap) k (ys.map (.int .i64))) (hg : w.grownBy w1 (Value.slice a n c).ownBlock) :
    w1.cell? ⟨R, 0, none⟩ = some (.slice a n c) ∧ w1.frozen? ⟨R, 0, none⟩ = false ∧ RowVar (w1.setCell ⟨R, 0, none⟩ (.slice r k cap)) R t base e r k cap ys := by
  have hlt := (Array.getElem?_eq_some_iff.1 h.2.2.1).1
  have hR : w1.heap[R]? = some (.cells #[.slice a n c] t (0, 0)) := by
    rw [hg.block R hlt (fun e' => by have := (h.2.2.2.lt R e'.symm).1; have := h.2.1; omega)]
    exact h.2.2.1
  refine ⟨by rw [cell_of_row w1 R 0 _ t (0, 0) hR]; simp, frozen_of_row w1 R 0 _ t hR, hl, h.2.1, ?_, ?_⟩
  · rw [heap_setCell_same w1 R 0 _ t _ hR]; simp
  · exact ownsRow_setCell_below hown h.2.1 _
theorem RowVar.put_below {w w1 : World} {R : Nat} {t : TypeId} {base : Nat} {e : TypeId} {a : Option Addr} {n c : Nat} {zs : List Int} {B : Nat} {W : World} {v : Value} (h : RowVar w R t base e a n c zs)
    (hg : w.grownBy w1 (Value.slice a n c).ownBlock) (hB : Below B W w) (hBR : B ≤ R) : Below B W (w1.setCell ⟨R, 0, none⟩ v) := by
  have hlt := (Array.getElem?_eq_some_iff.1 h.2.2.1).1
  have hb := h.2.1
  exact (hB.grown hg (by omega) (fun j hj => by have := (h.2.2.2.lt j hj).1; omega)).setCell hBR _

/-- As RowVar, the slice's cells in any block of the call's own but the variable's. -/
def RowVar2 (w : World) (R : Nat) (t : TypeId) (base : Nat) (e : TypeId) (a : Option Addr) (n c : Nat) (zs : List Int) : Prop :=
  zs.length = n ∧ w.heap[R]? = some (.cells #[.slice a n c] t (0, 0)) ∧ w.ownsRow base e 1 (.slice a n c) n (zs.map (.int .i64)) ∧ ∀ k, (Value.slice a n c).ownBlock = some k → k ≠ R

theorem RowVar2.cell {w : World} {R : Nat} {t : TypeId} {base : Nat} {e : TypeId} {a : Option Addr} {n c : Nat} {zs : List Int} (h : RowVar2 w R t base e a n c zs) : w.cell? ⟨R, 0, none⟩ = some (.slice a n c) := by
  rw [cell_of_row w R 0 _ t (0, 0) h.2.1]; simp
theorem RowVar2.frozen {w : World} {R : Nat} {t : TypeId} {base : Nat} {e : TypeId} {a : Option Addr} {n c : Nat} {zs : List Int} (h : RowVar2 w R t base e a n c zs) : w.frozen? ⟨R, 0, none⟩ = false := frozen_of_row w R 0 _ t h.2.1
theorem RowVar2.own {w : World} {R : Nat} {t : TypeId} {base : Nat} {e : TypeId} {a : Option Addr} {n c : Nat} {zs : List Int} (h : RowVar2 w R t base e a n c zs) : w.ownsRow base e 1 (.slice a n c) n (zs.map (.int .i64)) := h.2.2.1
theorem RowVar2.lt {w : World} {R : Nat} {t : TypeId} {base : Nat} {e : TypeId} {a : Option Addr} {n c : Nat} {zs : List Int} (h : RowVar2 w R t base e a n c zs) : R < w.heap.size := (Array.getElem?_eq_some_iff.1 h.2.1).1
theorem RowVar2.below {w w' : World} {R : Nat} {t : TypeId} {base : Nat} {e : TypeId} {a : Option Addr} {n c : Nat} {zs : List Int} (h : RowVar2 w R t base e a n c zs) (hb : Below w.heap.size w w') : RowVar2 w' R t base e a n c zs :=
  ⟨h.1, (hb.block R h.lt).trans h.2.1, owns_below h.2.2.1 hb, h.2.2.2⟩
theorem RowVar2.new {w : World} {t : TypeId} {base : Nat} {e : TypeId} {a : Option Addr} {n c : Nat} {zs : List Int} (hl : zs.length = n) (h : w.ownsRow base e 1 (.slice a n c) n (zs.map (.int .i64))) : RowVar2 (w.alloc (.cells #[.slice a n c] t)) w.heap.size t base e a n c zs :=
  ⟨hl, heap_alloc_new w _, h.alloc _, fun k hk => by have := (h.lt k hk).2; omega⟩

theorem setCell_grown (w : World) (a : Addr) (v : Value) : w.grownBy (w.setCell a v) (some a.block) :=
  ⟨rfl, rfl, rfl, by simp [World.setCell], fun k _ hn => Below.heap_setCell w a v k (fun e => hn (by rw [e]))⟩

theorem RowVar2.pushed {w w1 : World} {R : Nat} {t : TypeId} {base : Nat} {e : TypeId} {a : Option Addr} {n c g cap : Nat} {zs : List Int} {x : Int} {o : Obj} (h : RowVar2 w R t base e a n c zs)
    (hown : w1.ownsRow base e 1 (.slice (some ⟨g, 0, none⟩) (n + 1) cap) (n + 1) (zs.map (.int .i64) ++ [.int .i64 x])) (hg : (w.alloc o).grownBy w1 (Value.slice a n c).ownBlock)
    (hat : (Value.slice a n c).ownBlock = some g ∨ g = w.heap.size + 1) :
    w1.cell? ⟨R, 0, none⟩ = some (.slice a n c) ∧ w1.frozen? ⟨R, 0, none⟩ = false ∧
      RowVar2 (w1.setCell ⟨R, 0, none⟩ (.slice (some ⟨g, 0, none⟩) (n + 1) cap)) R t base e (some ⟨g, 0, none⟩) (n + 1) cap (zs ++ [x]) := by
  have hlt := h.lt
  have hgR : g ≠ R := by
    rcases hat with h' | h'
    · exact h.2.2.2 g h'
    · omega
  have hR : w1.heap[R]? = some (.cells #[.slice a n c] t (0, 0)) := by
    rw [hg.block R (by simp; omega) (fun e' => h.2.2.2 R e'.symm rfl), Below.heap_alloc w o R hlt]
    exact h.2.1
  refine ⟨by rw [cell_of_row w1 R 0 _ t (0, 0) hR]; simp, frozen_of_row w1 R 0 _ t hR, by simp [h.1], ?_, ?_, ?_⟩
  · rw [heap_setCell_same w1 R 0 _ t _ hR]; simp
  · rw [List.map_append]
    exact hown.kept (setCell_grown w1 ⟨R, 0, none⟩ _) (.inr (by simp [Value.ownBlock, hgR]))
  · intro k hk
    simp [Value.ownBlock] at hk
    omega

theorem RowVar2.pushed_below {w w1 : World} {R : Nat} {t : TypeId} {base : Nat} {e : TypeId} {a : Option Addr} {n c : Nat} {zs : List Int} {o : Obj} {B : Nat} {W : World} {v : Value} (h : RowVar2 w R t base e a n c zs)
    (hg : (w.alloc o).grownBy w1 (Value.slice a n c).ownBlock) (hB : Below B W w) (hBR : B ≤ R) (hBb : B ≤ base) : Below B W (w1.setCell ⟨R, 0, none⟩ v) := by
  have hlt := h.lt
  exact ((hB.alloc (by omega) o).grown hg (by simp; omega) (fun j hj => by have := (h.2.2.1.lt j hj).1; omega)).setCell hBR _

end Go.Proofs.Ythliamoeplgblaa
