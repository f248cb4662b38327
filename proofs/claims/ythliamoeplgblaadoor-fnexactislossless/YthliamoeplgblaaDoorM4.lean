/- Several texts of one proof, in build order: DepG, DepP, PlainPick, ChP, RowH, RepD, Blk, ChI. -/
import Derived.Test.YthliamoeplgblaaDoorM3
import Derived.Test.YthliamoeplgblaaDoorM0
import Derived.BigQuiet
import Derived.Deep.CutBlock

/- Dependencies as things in memory. -/
namespace Go.Proofs.YthliamoeplgblaaDoor
open Go.RowKit

/-- A dependency: From, To. -/
abbrev Dep := List Int × List Int
abbrev RDep : Rep Dep := Rep.pair RInts RInts
abbrev RDeps : Rep (List Dep) := Rep.slice 61 RDep
theorem RDep_k : RDep.k = 2 := rfl

theorem RDep.at_open {w : World} {cs : List Value} {x : Dep} (h : RDep.At w cs x) : ∃ fa fn fc ta tn tc, cs = [.slice fa fn fc, .slice ta tn tc] ∧
    (x.1.length = fn ∧ fn ≤ 9223372036854775807 ∧ At w fa x.1) ∧ (x.2.length = tn ∧ tn ≤ 9223372036854775807 ∧ At w ta x.2) := by
  obtain ⟨c1, c2, rfl, ⟨fa, fn, fc, rfl, t1, t2, t3, _⟩, ⟨ta, tn, tc, rfl, u1, u2, u3, _⟩⟩ := h
  exact ⟨fa, fn, fc, ta, tn, tc, rfl, ⟨t1, t2, atSl_int.1 t3⟩, ⟨u1, u2, atSl_int.1 u3⟩⟩

/-- What a dependency by value is, slice by slice. -/
theorem RDep.at_iff {w : World} {fa : Option Addr} {fn fc : Nat} {ta : Option Addr} {tn tc : Nat} {x : Dep} (h : RDep.At w [.slice fa fn fc, .slice ta tn tc] x) :
    (x.1.length = fn ∧ fn ≤ 9223372036854775807 ∧ At w fa x.1 ∧ (fa = none → fc = 0)) ∧ (x.2.length = tn ∧ tn ≤ 9223372036854775807 ∧ At w ta x.2 ∧ (ta = none → tc = 0)) := by
  obtain ⟨c1, c2, e, ⟨fa', fn', fc', rfl, t1, t2, t3, t4⟩, ⟨ta', tn', tc', rfl, u1, u2, u3, u4⟩⟩ := h
  simp only [List.cons_append, List.nil_append, List.cons.injEq, Value.slice.injEq, and_true] at e
  obtain ⟨⟨rfl, rfl, rfl⟩, rfl, rfl, rfl⟩ := e
  exact ⟨⟨t1, t2, atSl_int.1 t3, t4⟩, ⟨u1, u2, atSl_int.1 u3, u4⟩⟩

theorem RDep.own_mk {w : World} {F F1 F2 : Nat → Prop} {fs ts : List Int} {fa : Option Addr} {fn fc : Nat} {ta : Option Addr} {tn tc : Nat}
    (h1 : RInts.Own w F1 [.slice fa fn fc] fs) (h2 : RInts.Own w F2 [.slice ta tn tc] ts) (f1 : ∀ b, F1 b → F b) (f2 : ∀ b, F2 b → F b) (d12 : ∀ b, F1 b → ¬ F2 b) : RDep.Own w F [.slice fa fn fc, .slice ta tn tc] (fs, ts) :=
  ⟨[_], [_], F1, F2, rfl, h1, h2, f1, f2, d12⟩

theorem RDep.own_open {w : World} {F : Nat → Prop} {cs : List Value} {x : Dep} (h : RDep.Own w F cs x) : ∃ fa fn fc ta tn tc F1 F2, cs = [.slice fa fn fc, .slice ta tn tc] ∧
    RInts.Own w F1 [.slice fa fn fc] x.1 ∧ RInts.Own w F2 [.slice ta tn tc] x.2 ∧ (∀ b, F1 b → F b) ∧ (∀ b, F2 b → F b) ∧ (∀ b, F1 b → ¬ F2 b) := by
  obtain ⟨c1, d1, F1, F2, rfl, h1, h2, a1, a2, a3⟩ := h
  obtain ⟨ta, tn, tc, tcells, tG, rfl, tl⟩ := h1
  obtain ⟨ca, cn, cc, ccells, cG, rfl, cl⟩ := h2
  exact ⟨ta, tn, tc, ca, cn, cc, F1, F2, rfl, ⟨ta, tn, tc, tcells, tG, rfl, tl⟩, ⟨ca, cn, cc, ccells, cG, rfl, cl⟩, a1, a2, a3⟩

/-- How many slots the laws count for a dependency; and for some. -/
def dcost (x : Dep) : Nat := x.1.length + x.2.length
abbrev dsum (xs : List Dep) (k : Nat) : Nat := szL dcost xs k
theorem dsum_zero (xs : List Dep) : dsum xs 0 = 0 := by simp [dsum, szL]
theorem dsum_succ {xs : List Dep} {k : Nat} {x : Dep} (h : xs[k]? = some x) : dsum xs (k + 1) = dsum xs k + dcost x := szL_succ dcost h
theorem dsum_mono (xs : List Dep) (j k : Nat) (h : j ≤ k) : dsum xs j ≤ dsum xs k := szL_mono dcost xs j k h
theorem dsum_each {xs : List Dep} {n i : Nat} {x : Dep} (hn : xs.length = n) (h : xs[i]? = some x) : dcost x ≤ dsum xs n := by
  have hi := (List.getElem?_eq_some_iff.1 h).1
  have h1 := szL_succ dcost h
  have h2 := szL_mono dcost xs (i + 1) n (by omega)
  show dcost x ≤ szL dcost xs n
  omega

/-- Dependencies within the laws' bound. -/
def SmDep (x : Dep) : Prop := x.1.length ≤ 1048576 ∧ x.2.length ≤ 1048576
theorem SmDep.of {x : Dep} (h : dcost x ≤ 1048576) : SmDep x := by unfold dcost at h; exact ⟨by omega, by omega⟩
def SmD (xs : List Dep) (n : Nat) : Prop := xs.length = n ∧ n + dsum xs n ≤ 1048576
theorem SmD.n {xs : List Dep} {n : Nat} (h : SmD xs n) : n ≤ 1048576 := by have := h.2; omega
theorem SmD.sum {xs : List Dep} {n : Nat} (h : SmD xs n) : dsum xs n ≤ 1048576 := by have := h.2; omega
theorem SmD.each {xs : List Dep} {n : Nat} (h : SmD xs n) {i : Nat} {x : Dep} (hx : xs[i]? = some x) : SmDep x := by
  have := dsum_each h.1 hx
  have := h.2
  exact SmDep.of (by omega)

/-- A slice of dependencies as it is read: what a row of it is. -/
abbrev AtD (w : World) (a : Option Addr) (xs : List Dep) : Prop := AtSl RDep w a xs
theorem AtD.row {w : World} {a : Option Addr} {xs : List Dep} (h : AtD w a xs) (hp : 0 < xs.length) : ∃ b off, a = some ⟨b, off, none⟩ ∧ b < w.heap.size ∧ ∀ (i : Nat) (x : Dep), xs[i]? = some x → ∃ fa fn fc ta tn tc,
    w.cell? ⟨b, off + i * 2, none⟩ = some (.slice fa fn fc) ∧ w.cell? ⟨b, off + i * 2 + 1, none⟩ = some (.slice ta tn tc) ∧ (x.1.length = fn ∧ fn ≤ 9223372036854775807 ∧ At w fa x.1) ∧ (x.2.length = tn ∧ tn ≤ 9223372036854775807 ∧ At w ta x.2) := by
  obtain ⟨b, off, rfl, hc⟩ := AtSl.each h hp
  have row : ∀ (i : Nat) (x : Dep), xs[i]? = some x → ∃ fa fn fc ta tn tc,
    w.cell? ⟨b, off + i * 2, none⟩ = some (.slice fa fn fc) ∧ w.cell? ⟨b, off + i * 2 + 1, none⟩ = some (.slice ta tn tc) ∧ (x.1.length = fn ∧ fn ≤ 9223372036854775807 ∧ At w fa x.1) ∧ (x.2.length = tn ∧ tn ≤ 9223372036854775807 ∧ At w ta x.2) := by
    intro i x hx
    obtain ⟨cs, h1, h2⟩ := hc i x hx
    obtain ⟨fa, fn, fc, ta, tn, tc, rfl, t, u⟩ := RDep.at_open h2
    exact ⟨fa, fn, fc, ta, tn, tc, h1 0 _ rfl, h1 1 _ rfl, t, u⟩
  refine ⟨b, off, rfl, ?_, row⟩
  obtain ⟨fa, fn, fc, ta, tn, tc, h1, _⟩ := row 0 xs[0] (List.getElem?_eq_getElem hp)
  exact World.block_lt_of_cell? _ _ h1

theorem AtD.rowD {w : World} {a : Option Addr} {xs : List Dep} (h : AtD w a xs) (hp : 0 < xs.length) : ∃ b off, a = some ⟨b, off, none⟩ ∧ ∀ (i : Nat) (x : Dep), xs[i]? = some x → ∃ fa fn fc ta tn tc,
    w.cell? ⟨b, off + i * 2, none⟩ = some (.slice fa fn fc) ∧ w.cell? ⟨b, off + i * 2 + 1, none⟩ = some (.slice ta tn tc) ∧ RDep.At w [.slice fa fn fc, .slice ta tn tc] x := by
  obtain ⟨b, off, rfl, hc⟩ := AtSl.each h hp
  refine ⟨b, off, rfl, fun i x hx => ?_⟩
  obtain ⟨cs, h1, h2⟩ := hc i x hx
  obtain ⟨fa, fn, fc, ta, tn, tc, rfl, t, u⟩ := RDep.at_open h2
  exact ⟨fa, fn, fc, ta, tn, tc, h1 0 _ rfl, h1 1 _ rfl, h2⟩
theorem AtD.one {w : World} {b : Nat} {fa : Option Addr} {fn fc : Nat} {ta : Option Addr} {tn tc : Nat} {x : Dep} (h0 : w.cell? ⟨b, 0, none⟩ = some (.slice fa fn fc)) (h1 : w.cell? ⟨b, 1, none⟩ = some (.slice ta tn tc)) (h : RDep.At w [.slice fa fn fc, .slice ta tn tc] x) :
    AtD w (some ⟨b, 0, none⟩) [x] := by
  refine .inr ⟨b, 0, rfl, fun i y hy => ?_⟩
  have hi : i = 0 := by have := (List.getElem?_eq_some_iff.1 hy).1; simp at this; omega
  subst hi
  obtain rfl : x = y := by simpa using hy
  refine ⟨_, fun j v hv => ?_, h⟩
  match j, hv with
  | 0, hv => obtain rfl := Option.some.inj hv; simpa using h0
  | 1, hv => obtain rfl := Option.some.inj hv; simpa using h1

end Go.Proofs.YthliamoeplgblaaDoor

/- Plain: rising lists of columns, and dependencies that are good. -/
namespace Go.Proofs.YthliamoeplgblaaDoor
open Go.RowKit

/-- Rising behind p, and below c. -/
def risB (c : Int) : Int → List Int → Bool
  | _, [] => true
  | p, z :: zs => decide (p < z) && (decide (z < c) && risB c z zs)
def ris (c : Int) (l : List Int) : Bool := risB c (-1) l
theorem risB_done (c p : Int) (zs : List Int) (n : Nat) (h : zs.length = n) : risB c p (zs.drop n) = true := by
  rw [List.drop_of_length_le (by omega)]; rfl
theorem risB_step (c p : Int) (zs : List Int) (k : Nat) (h : k < zs.length) : risB c p (zs.drop k) = (decide (p < zs.getD k 0) && (decide (zs.getD k 0 < c) && risB c (zs.getD k 0) (zs.drop (k + 1)))) := by
  rw [List.drop_eq_getElem_cons h]
  have e : zs.getD k 0 = zs[k] := by simp [List.getD, h]
  rw [e]
  rfl
def goodDep (c : Int) (d : Dep) : Bool := ris c d.1 && ris c d.2
def allDep (c : Int) (l : List Dep) : Bool := l.all (goodDep c)
def goodDeps (l : List Dep) (c : Int) : Bool := decide (1 ≤ c) && (decide (c ≤ 6) && (decide (l.length ≤ 10) && allDep c l))
theorem allDep_done (c : Int) (xs : List Dep) (n : Nat) (h : xs.length = n) : allDep c (xs.drop n) = true := by
  rw [List.drop_of_length_le (by omega)]; rfl
theorem allDep_step (c : Int) {xs : List Dep} {k : Nat} {x : Dep} (h : xs[k]? = some x) : allDep c (xs.drop k) = (ris c x.1 && (ris c x.2 && allDep c (xs.drop (k + 1)))) := by
  obtain ⟨hk, rfl⟩ := List.getElem?_eq_some_iff.1 h
  rw [List.drop_eq_getElem_cons hk]
  show (ris c xs[k].1 && ris c xs[k].2 && allDep c _) = _
  rw [Bool.and_assoc]

end Go.Proofs.YthliamoeplgblaaDoor

/- Plain functions: picking cells. -/
namespace Go.Proofs.YthliamoeplgblaaDoor

def colIn (n : Nat) (k : Int) : Bool := decide (0 ≤ k) && decide (k < n)
def colsOk (cols : List Int) (n : Nat) : Bool := decide (cols.length ≤ 6) && cols.all (colIn n)
def pick (zs cols : List Int) : List Int := cols.map fun k => zs.getD k.toNat 0
def pickOk (zs cols : List Int) : Bool := good zs && colsOk cols zs.length
def pickZ (zs cols : List Int) : List Int := if pickOk zs cols then pick zs cols else []

theorem colsOk_of {cols : List Int} {n : Nat} (hl : cols.length ≤ 6) (h : ∀ j, j < cols.length → 0 ≤ cols.getD j 0 ∧ cols.getD j 0 < n) : colsOk cols n = true := by
  simp only [colsOk, Bool.and_eq_true, decide_eq_true_eq, List.all_eq_true, colIn]
  refine ⟨hl, fun x hx => ?_⟩
  obtain ⟨k, hk, rfl⟩ := List.getElem_of_mem hx
  simpa [List.getD, hk] using h k hk
theorem colsOk_at {cols : List Int} {n : Nat} (h : colsOk cols n = true) (k : Nat) (hk : k < cols.length) : 0 ≤ cols.getD k 0 ∧ cols.getD k 0 < n := by
  simp only [colsOk, Bool.and_eq_true, decide_eq_true_eq, List.all_eq_true, colIn] at h
  have := h.2 (cols[k]) (List.getElem_mem hk)
  simpa [List.getD, hk] using this
theorem colsOk_long {cols : List Int} {n : Nat} (h : 6 < cols.length) : colsOk cols n = false := by simp [colsOk]; omega
theorem colsOk_len {cols : List Int} {n : Nat} (h : colsOk cols n = true) : cols.length ≤ 6 := by
  simp only [colsOk, Bool.and_eq_true, decide_eq_true_eq] at h; exact h.1
theorem not_colsOk {cols : List Int} {n : Nat} (k : Nat) (hk : k < cols.length) (h : cols.getD k 0 < 0 ∨ (n : Int) ≤ cols.getD k 0) : colsOk cols n = false := by
  cases hg : colsOk cols n with
  | false => rfl
  | true => have := colsOk_at hg k hk; omega
theorem pick_succ (zs cols : List Int) (k : Nat) (h : k < cols.length) : pick zs (cols.take (k + 1)) = pick zs (cols.take k) ++ [zs.getD (cols.getD k 0).toNat 0] := by
  unfold pick
  rw [take_snocD cols k h, List.map_append]; rfl
theorem pick_length (zs cols : List Int) (k : Nat) (h : k ≤ cols.length) : (pick zs (cols.take k)).length = k := by simp [pick]; omega
theorem pickZ_small (zs cols : List Int) : (pickZ zs cols).length ≤ 6 := by
  unfold pickZ
  split
  · rename_i h
    simp only [pickOk, Bool.and_eq_true] at h
    have := colsOk_len h.2
    simpa [pick] using this
  · simp

end Go.Proofs.YthliamoeplgblaaDoor

/- Plain: the chase. -/
namespace Go.Proofs.YthliamoeplgblaaDoor
open Go.RowKit

/-- The same cells in these columns. -/
def sameC (x y : List Int) : List Int → Bool
  | [] => true
  | k :: ks => decide (x.getD k.toNat 0 = y.getD k.toNat 0) && sameC x y ks
/-- A column, what is greater there, and what is less. -/
abbrev Mrg := Int × Int × Int
def gr (a b : Int) : Int := if a < b then b else a
def ls (a b : Int) : Int := if a < b then a else b
def mrgTo (x y : List Int) : List Int → Option Mrg
  | [] => none
  | k :: ks => if x.getD k.toNat 0 = y.getD k.toNat 0 then mrgTo x y ks else some (k, gr (x.getD k.toNat 0) (y.getD k.toNat 0), ls (x.getD k.toNat 0) (y.getD k.toNat 0))
def mrgBy (d : Dep) (x y : List Int) : Option Mrg := if sameC x y d.1 then mrgTo x y d.2 else none
def mrgRow (d : Dep) (x : List Int) : List (List Int) → Option Mrg
  | [] => none
  | y :: ys => (mrgBy d x y).or (mrgRow d x ys)
def mrgRows (d : Dep) : List (List Int) → Option Mrg
  | [] => none
  | x :: ys => (mrgRow d x ys).or (mrgRows d ys)
def mrgAll (zss : List (List Int)) : List Dep → Option Mrg
  | [] => none
  | d :: ds => (mrgRows d zss).or (mrgAll zss ds)
def mrgIn (m : Mrg) (z : List Int) : List Int := if z.getD m.1.toNat 0 = m.2.1 then z.set m.1.toNat m.2.2 else z
def stepZ (xs : List Dep) (zss : List (List Int)) : Option (List (List Int)) := (mrgAll zss xs).map fun m => zss.map (mrgIn m)

theorem sameC_step {x y cols : List Int} {k : Nat} (h : k < cols.length) : sameC x y (cols.drop k) = (decide (x.getD (cols.getD k 0).toNat 0 = y.getD (cols.getD k 0).toNat 0) && sameC x y (cols.drop (k + 1))) := by
  rw [List.drop_eq_getElem_cons h]
  have e : cols.getD k 0 = cols[k] := by simp [List.getD, h]
  rw [e]; rfl
theorem sameC_done {x y cols : List Int} {n : Nat} (h : cols.length = n) : sameC x y (cols.drop n) = true := by
  rw [List.drop_of_length_le (by omega)]; rfl
theorem sameC_pick (x y cols : List Int) : sameC x y cols = decide (pick x cols = pick y cols) := by
  induction cols with
  | nil => simp [sameC, pick]
  | cons k ks ih =>
    rw [sameC, ih]
    unfold pick
    simp only [List.map_cons, List.cons.injEq]
    rw [Bool.decide_and]
theorem mrgTo_step {x y cols : List Int} {k : Nat} (h : k < cols.length) : mrgTo x y (cols.drop k) = if x.getD (cols.getD k 0).toNat 0 = y.getD (cols.getD k 0).toNat 0 then mrgTo x y (cols.drop (k + 1)) else some (cols.getD k 0, gr (x.getD (cols.getD k 0).toNat 0) (y.getD (cols.getD k 0).toNat 0), ls (x.getD (cols.getD k 0).toNat 0) (y.getD (cols.getD k 0).toNat 0)) := by
  rw [List.drop_eq_getElem_cons h]
  have e : cols.getD k 0 = cols[k] := by simp [List.getD, h]
  rw [e]; rfl
theorem mrgTo_done {x y cols : List Int} {n : Nat} (h : cols.length = n) : mrgTo x y (cols.drop n) = none := by
  rw [List.drop_of_length_le (by omega)]; rfl
theorem mrgRow_step {d : Dep} {x : List Int} {ys : List (List Int)} {k : Nat} {y : List Int} (h : ys[k]? = some y) : mrgRow d x (ys.drop k) = (mrgBy d x y).or (mrgRow d x (ys.drop (k + 1))) := by
  obtain ⟨hk, rfl⟩ := List.getElem?_eq_some_iff.1 h
  rw [List.drop_eq_getElem_cons hk]; rfl
theorem mrgRows_step {d : Dep} {ys : List (List Int)} {k : Nat} {y : List Int} (h : ys[k]? = some y) : mrgRows d (ys.drop k) = (mrgRow d y (ys.drop (k + 1))).or (mrgRows d (ys.drop (k + 1))) := by
  obtain ⟨hk, rfl⟩ := List.getElem?_eq_some_iff.1 h
  rw [List.drop_eq_getElem_cons hk]; rfl
theorem mrgAll_step {zss : List (List Int)} {ds : List Dep} {k : Nat} {d : Dep} (h : ds[k]? = some d) : mrgAll zss (ds.drop k) = (mrgRows d zss).or (mrgAll zss (ds.drop (k + 1))) := by
  obtain ⟨hk, rfl⟩ := List.getElem?_eq_some_iff.1 h
  rw [List.drop_eq_getElem_cons hk]; rfl
theorem mrgRow_done {d : Dep} {x : List Int} {ys : List (List Int)} {n : Nat} (h : ys.length ≤ n) : mrgRow d x (ys.drop n) = none := by rw [List.drop_of_length_le h]; rfl
theorem mrgRows_done {d : Dep} {ys : List (List Int)} {n : Nat} (h : ys.length ≤ n) : mrgRows d (ys.drop n) = none := by rw [List.drop_of_length_le h]; rfl
theorem mrgAll_done {zss : List (List Int)} {ds : List Dep} {n : Nat} (h : ds.length ≤ n) : mrgAll zss (ds.drop n) = none := by rw [List.drop_of_length_le h]; rfl

/-- What a merging is of: a column of To, and two rows that are unlike there. -/
def MrgOf (m : Mrg) (x y : List Int) : Prop := x.getD m.1.toNat 0 ≠ y.getD m.1.toNat 0 ∧ m.2.1 = gr (x.getD m.1.toNat 0) (y.getD m.1.toNat 0) ∧ m.2.2 = ls (x.getD m.1.toNat 0) (y.getD m.1.toNat 0)
theorem mrgTo_of {x y cols : List Int} {m : Mrg} (h : mrgTo x y cols = some m) : m.1 ∈ cols ∧ MrgOf m x y := by
  induction cols with
  | nil => cases h
  | cons k ks ih =>
    rw [mrgTo] at h
    split at h
    · obtain ⟨h1, h2⟩ := ih h; exact ⟨List.mem_cons_of_mem _ h1, h2⟩
    · rename_i hne
      obtain rfl := Option.some.inj h
      exact ⟨List.mem_cons_self, hne, rfl, rfl⟩
theorem mrgBy_of {d : Dep} {x y : List Int} {m : Mrg} (h : mrgBy d x y = some m) : m.1 ∈ d.2 ∧ MrgOf m x y := by
  unfold mrgBy at h
  split at h
  · exact mrgTo_of h
  · cases h
theorem mrgRow_of {d : Dep} {x : List Int} {ys : List (List Int)} {m : Mrg} (h : mrgRow d x ys = some m) : m.1 ∈ d.2 ∧ ∃ y ∈ ys, MrgOf m x y := by
  induction ys with
  | nil => cases h
  | cons y ys ih =>
    rw [mrgRow] at h
    cases hb : mrgBy d x y with
    | some m' =>
      rw [hb] at h
      obtain rfl := Option.some.inj h
      obtain ⟨h1, h2⟩ := mrgBy_of hb
      exact ⟨h1, y, List.mem_cons_self, h2⟩
    | none =>
      rw [hb] at h
      obtain ⟨h1, y', h2, h3⟩ := ih h
      exact ⟨h1, y', List.mem_cons_of_mem _ h2, h3⟩
theorem mrgRows_of {d : Dep} {ys : List (List Int)} {m : Mrg} (h : mrgRows d ys = some m) : m.1 ∈ d.2 ∧ ∃ x ∈ ys, ∃ y ∈ ys, MrgOf m x y := by
  induction ys with
  | nil => cases h
  | cons x ys ih =>
    rw [mrgRows] at h
    cases hb : mrgRow d x ys with
    | some m' =>
      rw [hb] at h
      obtain rfl := Option.some.inj h
      obtain ⟨h1, y, h2, h3⟩ := mrgRow_of hb
      exact ⟨h1, x, List.mem_cons_self, y, List.mem_cons_of_mem _ h2, h3⟩
    | none =>
      rw [hb] at h
      obtain ⟨h1, x', h2, y', h3, h4⟩ := ih h
      exact ⟨h1, x', List.mem_cons_of_mem _ h2, y', List.mem_cons_of_mem _ h3, h4⟩
theorem mrgAll_of {zss : List (List Int)} {ds : List Dep} {m : Mrg} (h : mrgAll zss ds = some m) : (∃ d ∈ ds, m.1 ∈ d.2) ∧ ∃ x ∈ zss, ∃ y ∈ zss, MrgOf m x y := by
  induction ds with
  | nil => cases h
  | cons d ds ih =>
    rw [mrgAll] at h
    cases hb : mrgRows d zss with
    | some m' =>
      rw [hb] at h
      obtain rfl := Option.some.inj h
      obtain ⟨h1, h2⟩ := mrgRows_of hb
      exact ⟨⟨d, List.mem_cons_self, h1⟩, h2⟩
    | none =>
      rw [hb] at h
      obtain ⟨⟨d', h1, h2⟩, h3⟩ := ih h
      exact ⟨⟨d', List.mem_cons_of_mem _ h1, h2⟩, h3⟩

theorem risB_memC {c p : Int} {l : List Int} (h : risB c p l = true) : ∀ x ∈ l, p < x ∧ x < c := by
  induction l generalizing p with
  | nil => intro x hx; cases hx
  | cons z zs ih =>
    simp only [risB, Bool.and_eq_true, decide_eq_true_eq] at h
    intro x hx
    rcases List.mem_cons.1 hx with rfl | hx
    · exact ⟨h.1, h.2.1⟩
    · have := ih h.2.2 x hx; omega
theorem risB_lenC {c p : Int} {l : List Int} (h : risB c p l = true) (hp : -1 ≤ p) : (l.length : Int) + p + 1 ≤ c ∨ l = [] := by
  induction l generalizing p with
  | nil => exact .inr rfl
  | cons z zs ih =>
    simp only [risB, Bool.and_eq_true, decide_eq_true_eq] at h
    left
    rcases ih h.2.2 (by omega) with h' | rfl
    · simp only [List.length_cons]; omega
    · simp; omega
theorem ris_cols {q : Nat} {l : List Int} (hq : q ≤ 6) (h : ris (q : Int) l = true) : colsOk l q = true := by
  refine colsOk_of ?_ (fun j hj => ?_)
  · rcases risB_lenC h (by omega) with h' | rfl
    · omega
    · simp
  · have h1 : l.getD j 0 ∈ l := by rw [show l.getD j 0 = l[j] by simp [List.getD, hj]]; exact List.getElem_mem hj
    have := risB_memC h _ h1; omega

theorem goodDeps_C {l : List Dep} {c : Int} (h : goodDeps l c = true) : 1 ≤ c ∧ c ≤ 6 ∧ l.length ≤ 10 := by
  simp only [goodDeps, Bool.and_eq_true, decide_eq_true_eq] at h; exact ⟨h.1, h.2.1, h.2.2.1⟩
theorem goodDeps_dep {l : List Dep} {c : Int} (h : goodDeps l c = true) {d : Dep} (hd : d ∈ l) : ris c d.1 = true ∧ ris c d.2 = true := by
  simp only [goodDeps, Bool.and_eq_true, decide_eq_true_eq, allDep, List.all_eq_true, goodDep] at h
  exact h.2.2.2 d hd

theorem mrgIn_length (m : Mrg) (z : List Int) : (mrgIn m z).length = z.length := by unfold mrgIn; split <;> simp
theorem mrgIn_getD (m : Mrg) (z : List Int) (k : Nat) (hk : k < z.length) : (mrgIn m z).getD k 0 = if k = m.1.toNat ∧ z.getD k 0 = m.2.1 then m.2.2 else z.getD k 0 := by
  unfold mrgIn
  by_cases h1 : z.getD m.1.toNat 0 = m.2.1
  · rw [if_pos h1]
    by_cases h2 : k = m.1.toNat
    · rw [if_pos ⟨h2, by rw [h2]; exact h1⟩, h2]
      have : m.1.toNat < z.length := by omega
      simp [List.getD, this]
    · rw [if_neg (fun h => h2 h.1)]
      simp [List.getD, List.getElem?_set_ne (Ne.symm h2)]
  · rw [if_neg h1]
    split
    · rename_i h; exact absurd (h.1 ▸ h.2) h1
    · rfl

/-- A step of a good tableau. -/
structure MrgOk (C : Int) (zss : List (List Int)) (m : Mrg) : Prop where
  col : 0 ≤ m.1 ∧ m.1 < C
  less : 0 ≤ m.2.2 ∧ m.2.2 < m.2.1 ∧ m.2.1 ≤ 100000
  there : ∃ z ∈ zss, z.getD m.1.toNat 0 = m.2.1
theorem mrg_ok {C : Int} {zss : List (List Int)} {ds : List Dep} {m : Mrg} (ht : tbB C zss = true) (hd : goodDeps ds C = true) (h : mrgAll zss ds = some m) : MrgOk C zss m := by
  obtain ⟨⟨d, hd1, hd2⟩, x, hx, y, hy, hne, hg, hl⟩ := mrgAll_of h
  have hc := risB_memC (goodDeps_dep hd hd1).2 _ hd2
  obtain ⟨i, hi, rfl⟩ := List.getElem_of_mem hx
  obtain ⟨j, hj, rfl⟩ := List.getElem_of_mem hy
  have rx := tbB_row ht (List.getElem?_eq_getElem hi)
  have ry := tbB_row ht (List.getElem?_eq_getElem hj)
  have lx := rowOk_len rx
  have ly := rowOk_len ry
  have cx := rowOk_cell rx m.1.toNat (by omega)
  have cy := rowOk_cell ry m.1.toNat (by omega)
  refine ⟨by omega, ?_, ?_⟩
  · rw [hg, hl]; unfold gr ls; split <;> omega
  · rw [hg]; unfold gr
    split
    · exact ⟨_, hy, rfl⟩
    · exact ⟨_, hx, rfl⟩

theorem mrgIn_ok {C : Int} {zss : List (List Int)} {m : Mrg} {z : List Int} (hm : MrgOk C zss m) (hz : rowOk C z = true) : rowOk C (mrgIn m z) = true := by
  have hl := rowOk_len hz
  have hg := good_len (rowOk_good hz)
  have hc : ∀ k, k < z.length → 0 ≤ (mrgIn m z).getD k 0 ∧ (mrgIn m z).getD k 0 ≤ 100000 := fun k hk => by
    rw [mrgIn_getD m z k hk]
    have := rowOk_cell hz k hk
    have := hm.less
    split <;> omega
  refine rowOk_of (good_of (by rw [mrgIn_length]; exact hg) (fun k hk => ?_)) (by rw [mrgIn_length]; exact hl) (fun k hk => ?_)
  · have := hc k (by rwa [mrgIn_length] at hk); omega
  · have := hc k (by rwa [mrgIn_length] at hk); omega
theorem step_good {C : Int} {zss yss : List (List Int)} {ds : List Dep} (ht : tbB C zss = true) (hd : goodDeps ds C = true) (h : stepZ ds zss = some yss) : tbB C yss = true := by
  unfold stepZ at h
  cases hm : mrgAll zss ds with
  | none => rw [hm] at h; cases h
  | some m =>
    rw [hm] at h
    obtain rfl := Option.some.inj h
    have ho := mrg_ok ht hd hm
    refine tbB_of (tbB_C ht) (by simpa using tbB_n ht) (fun z hz => ?_)
    obtain ⟨y, hy, rfl⟩ := List.mem_map.1 hz
    obtain ⟨i, hi, rfl⟩ := List.getElem_of_mem hy
    exact mrgIn_ok ho (tbB_row ht (List.getElem?_eq_getElem hi))

/-- All cells together: each step makes it less. -/
def sumZ (zss : List (List Int)) : Int := (zss.map List.sum).sum
theorem sum_set (z : List Int) (k : Nat) (v : Int) (h : k < z.length) : (z.set k v).sum = z.sum - z.getD k 0 + v := by
  induction z generalizing k with
  | nil => simp at h
  | cons y z ih =>
    cases k with
    | zero => simp; omega
    | succ k =>
      have := ih k (by simpa using h)
      simp only [List.set_cons_succ, List.sum_cons, this]
      simp; omega
theorem mrgIn_sum {m : Mrg} {z : List Int} (h : m.1.toNat < z.length) (hl : m.2.2 < m.2.1) : (mrgIn m z).sum ≤ z.sum ∧ (z.getD m.1.toNat 0 = m.2.1 → (mrgIn m z).sum < z.sum) := by
  unfold mrgIn
  split
  · rename_i he; rw [sum_set z _ _ h, he]; omega
  · rename_i he; exact ⟨Int.le_refl _, fun h => absurd h he⟩
theorem sumZ_map {m : Mrg} : ∀ {zss : List (List Int)}, (∀ z ∈ zss, m.1.toNat < z.length) → m.2.2 < m.2.1 → sumZ (zss.map (mrgIn m)) ≤ sumZ zss ∧ ((∃ z ∈ zss, z.getD m.1.toNat 0 = m.2.1) → sumZ (zss.map (mrgIn m)) < sumZ zss)
  | [], _, _ => by simp [sumZ]
  | z :: zss, h, hl => by
    have ih := sumZ_map (zss := zss) (fun y hy => h y (List.mem_cons_of_mem _ hy)) hl
    have h0 := mrgIn_sum (h z List.mem_cons_self) hl
    have e : ∀ (a : List Int) (l : List (List Int)), sumZ (a :: l) = a.sum + sumZ l := fun a l => by simp [sumZ]
    rw [List.map_cons, e, e]
    refine ⟨by omega, fun ⟨y, hy, hv⟩ => ?_⟩
    rcases List.mem_cons.1 hy with rfl | hy
    · have := h0.2 hv; omega
    · have := ih.2 ⟨y, hy, hv⟩; omega
theorem step_sum {C : Int} {zss yss : List (List Int)} {ds : List Dep} (ht : tbB C zss = true) (hd : goodDeps ds C = true) (h : stepZ ds zss = some yss) : sumZ yss < sumZ zss := by
  unfold stepZ at h
  cases hm : mrgAll zss ds with
  | none => rw [hm] at h; cases h
  | some m =>
    rw [hm] at h
    obtain rfl := Option.some.inj h
    have ho := mrg_ok ht hd hm
    refine (sumZ_map (fun z hz => ?_) ho.less.2.1).2 ho.there
    obtain ⟨i, hi, rfl⟩ := List.getElem_of_mem hz
    have := rowOk_len (tbB_row ht (List.getElem?_eq_getElem hi))
    have := ho.col
    omega
theorem sum_bound {z : List Int} (h : ∀ k, k < z.length → 0 ≤ z.getD k 0 ∧ z.getD k 0 ≤ 100000) : 0 ≤ z.sum ∧ z.sum ≤ z.length * 100000 := by
  induction z with
  | nil => simp
  | cons y z ih =>
    have h0 := h 0 (by simp)
    have := ih (fun k hk => by have := h (k + 1) (by simpa using hk); simpa using this)
    simp at h0
    simp only [List.sum_cons, List.length_cons]
    omega
theorem sumZ_bound {C : Int} {zss : List (List Int)} (h : ∀ z ∈ zss, rowOk C z = true) : 0 ≤ sumZ zss ∧ sumZ zss ≤ zss.length * 600000 := by
  induction zss with
  | nil => simp [sumZ]
  | cons z zss ih =>
    have ih := ih (fun y hy => h y (List.mem_cons_of_mem _ hy))
    have hz := h z List.mem_cons_self
    have h0 := sum_bound (fun k hk => rowOk_cell hz k hk)
    have := good_len (rowOk_good hz)
    have e : sumZ (z :: zss) = z.sum + sumZ zss := by simp [sumZ]
    rw [e]
    simp only [List.length_cons]
    omega
theorem tbB_sumZ {C : Int} {zss : List (List Int)} (h : tbB C zss = true) : 0 ≤ sumZ zss ∧ sumZ zss ≤ 4800000 := by
  have h1 := tbB_n h
  have h2 : zss.all (rowOk C) = true := by simp only [tbB, Bool.and_eq_true] at h; exact h.2
  have := sumZ_bound (List.all_eq_true.1 h2)
  omega

end Go.Proofs.YthliamoeplgblaaDoor

/- Contracts of the laws' helpers over rows: szRow, toRow, eqRow. -/
namespace Go.Proofs.YthliamoeplgblaaDoor
open Go.RowKit

theorem eqRow_any (a a' : Option Addr) (n n' c c' : Nat) (zs zs' : List Int) (w : World) (hz : zs.length = n) (hz' : zs'.length = n') (hn : n ≤ 1048576) (hn' : n' ≤ 1048576) (ha : At w a zs) (ha' : At w a' zs') :
    Calls Tryd.prog 48 #[.agg #[.slice a n c], .agg #[.slice a' n' c']] w fun e w' => e = .returned (.bool (decide (zs = zs'))) ∧ Below w.heap.size w w' := by
  have HA := (ha.alloc (.cells #[.slice a n c] 47)).alloc (.cells #[.slice a' n' c'] 47)
  have HA' := (ha'.alloc (.cells #[.slice a n c] 47)).alloc (.cells #[.slice a' n' c'] 47)
  clear ha ha'
  have hd : ∀ d : Bool, decide (zs = zs') = d → Calls Tryd.prog 48 #[.agg #[.slice a n c], .agg #[.slice a' n' c']] w fun e w' => e = .returned (.bool d) ∧ Below w.heap.size w w' := by
    intro d hd
    have HD : Hid (decide (zs = zs') = d) := hd
    clear hd
    cases d
    all_goals
      go_enter Tryd.func48, Tryd.ntmps48
      go_wp2_with (go_at_call 27; refine (eqIntS_any _ _ _ _ _ _ zs zs' _ hz hz' hn hn' HA HA').mono ?_; rintro e w' ⟨rfl, hb⟩; rw [HD.out])
      go_ret
      exact ⟨rfl, (((Below.refl _ _).alloc (Nat.le_refl _) _).alloc (by simp) _).trans (hb.mono (by simp; omega))⟩
  exact hd _ rfl

end Go.Proofs.YthliamoeplgblaaDoor

/- The laws' copies of slices of numbers, of slices of numbers, as things that are owned. -/
namespace Go.Proofs.YthliamoeplgblaaDoor
open Go.RowKit

theorem toInts_rep (a : Option Addr) (n c : Nat) (zs : List Int) (w : World) (hz : zs.length = n) (hn : n ≤ 1048576) (ha : At w a zs) :
    Calls Tryd.prog 22 #[.slice a n c] w fun e w' => ∃ g, e = .returned (.slice (some ⟨g, 0, none⟩) n n) ∧ RInts.Own w' (From w.heap.size w'.heap.size) [.slice (some ⟨g, 0, none⟩) n n] zs ∧ Below w.heap.size w w' :=
  (toIntS_any a n c zs w hz hn ha).mono fun _ _ ⟨h1, h2, h3⟩ => ⟨_, h1, RInts.of_owns hz (by omega) h2, h3⟩
theorem toPairs_rep (a : Option Addr) (n c : Nat) (ps : List (List Int)) (w : World) (hz : ps.length = n) (hn : n ≤ 1048576) (hs : ∀ i, i < ps.length → (ps.getD i []).length ≤ 1048576) (ha : AtS w a ps) :
    Calls Tryd.prog 7 #[.slice a n c] w fun e w' => ∃ g, e = .returned (.slice (some ⟨g, 0, none⟩) n n) ∧ RPairs.Own w' (From w.heap.size w'.heap.size) [.slice (some ⟨g, 0, none⟩) n n] ps ∧ Below w.heap.size w w' :=
  (toIntSS_at a n c ps w hz hn hs ha).mono fun _ _ ⟨g, h1, h2, h3⟩ => ⟨g, h1, RPairs.of_own h2 hn hs, h3⟩

end Go.Proofs.YthliamoeplgblaaDoor

/- A block of cells that a function holds: what is stored, what stays. -/
namespace Go.Proofs.YthliamoeplgblaaDoor
open Go.RowKit

theorem blk_set {w : World} {g : Nat} {cs : Array Value} {t : TypeId} (h : w.heap[g]? = some (.cells cs t (0, 0))) (k : Nat) (v : Value) : (w.setCell ⟨g, k, none⟩ v).heap[g]? = some (.cells (cs.setIfInBounds k v) t (0, 0)) := heap_setCell_same w g k cs t v h
theorem blk_cell {w : World} {g : Nat} {cs : Array Value} {t : TypeId} (h : w.heap[g]? = some (.cells cs t (0, 0))) (k : Nat) {v : Value} (hv : cs[k]? = some v) : w.cell? ⟨g, k, none⟩ = some v := by
  rw [cell_of_row w g k _ t (0, 0) h]; exact hv
theorem blk_frozen {w : World} {g : Nat} {cs : Array Value} {t : TypeId} (h : w.heap[g]? = some (.cells cs t (0, 0))) (k : Nat) : w.frozen? ⟨g, k, none⟩ = false := frozen_of_row w g k _ t h
theorem blk_below {w w' : World} {g : Nat} {o : Obj} (h : w.heap[g]? = some o) (hb : Below w.heap.size w w') : w'.heap[g]? = some o := (hb.block g (Array.getElem?_eq_some_iff.1 h).1).trans h
theorem blk_other {w : World} {g : Nat} {o : Obj} (h : w.heap[g]? = some o) {a : Addr} (ha : g ≠ a.block) (v : Value) : (w.setCell a v).heap[g]? = some o := (Below.heap_setCell w a v g ha).trans h
theorem blk_alloc {w : World} {g : Nat} {o : Obj} (h : w.heap[g]? = some o) (o' : Obj) : (w.alloc o').heap[g]? = some o := (Below.heap_alloc w o' g (Array.getElem?_eq_some_iff.1 h).1).trans h

end Go.Proofs.YthliamoeplgblaaDoor

/- Contracts of impl.symbolAt, impl.sameCells. -/
namespace Go.Proofs.YthliamoeplgblaaDoor
open Go.RowKit

set_option maxHeartbeats 1000000 in
theorem symbolAt_any (a : Option Addr) (n c : Nat) (zs : List Int) (k : Int) (w : World) (hz : zs.length = n) (hn : n ≤ 1048576) (h0 : 0 ≤ k) (h1 : k < n) (ha : At w a zs) :
    Calls Tryd.prog 72 #[.agg #[.slice a n c], .int .i64 k] w fun e w' => e = .returned (.agg #[.int .i64 k, .int .i64 (zs.getD k.toNat 0)]) ∧ Below w.heap.size w w' := by
  obtain ⟨j, rfl⟩ : ∃ j : Nat, k = (j : Int) := ⟨k.toNat, by omega⟩
  have hj : j < n := by omega
  obtain ⟨W, hW⟩ : ∃ W, W = (w.alloc (.cells #[.slice a n c] 47)).alloc (.cells #[.int .i64 0, .int .i64 0] 88) := ⟨_, rfl⟩
  have B0 : Below w.heap.size w W := by rw [hW]; exact ((Below.refl _ _).alloc (Nat.le_refl _) _).alloc (by simp) _
  obtain ⟨b, off, rfl, hb, hc⟩ := (ha.below B0).some (by omega)
  have hcx := hc j (by omega)
  have c0 : W.cell? ⟨w.heap.size, 0, none⟩ = some (.slice (some ⟨b, off, none⟩) n c) := by rw [hW]; simp
  have q1 : W.heap[w.heap.size + 1]? = some (.cells #[.int .i64 0, .int .i64 0] 88 (0, 0)) := by
    rw [hW]
    have := heap_alloc_new (w.alloc (.cells #[.slice (some ⟨b, off, none⟩) n c] 47)) (.cells #[.int .i64 0, .int .i64 0] 88)
    rwa [World.size_alloc] at this
  have e0 := blk_cell q1 0 (v := .int .i64 0) rfl
  have e1 := blk_cell q1 1 (v := .int .i64 0) rfl
  have f0 := blk_frozen q1 0
  have f1 := blk_frozen q1 1
  rw [show (j : Int).toNat = j by omega]
  obtain ⟨x, hx⟩ : ∃ x, x = zs.getD j 0 := ⟨_, rfl⟩
  rw [← hx] at hcx ⊢
  clear hx hc ha q1
  go_enter Tryd.func72, Tryd.ntmps72
  go_upto_region 1 with fail
  rw [← hW]
  clear hW
  go_wp2
  refine bodyPost_ret (v := .agg #[.int .i64 j, .int .i64 x]) (by simp [results, Tryd.results72, go_sem, e0, e1]) rfl ⟨rfl, ?_⟩
  exact (B0.setCell (by simp) _).setCell (by simp) _

set_option maxHeartbeats 2000000 in
theorem sameCells_any (xa : Option Addr) (q xc : Nat) (x : List Int) (ya : Option Addr) (yc : Nat) (y : List Int) (a : Option Addr) (n c : Nat) (cols : List Int) (w : World) (hx : x.length = q) (hy : y.length = q) (hq : q ≤ 1048576) (hz : cols.length = n)
    (hok : colsOk cols q = true) (hax : At w xa x) (hay : At w ya y) (ha : At w a cols) :
    Calls Tryd.prog 73 #[.agg #[.slice xa q xc], .agg #[.slice ya q yc], .slice a n c] w fun e w' => e = .returned (.bool (sameC x y cols)) ∧ Below w.heap.size w w' := by
  have hn6 := colsOk_len hok
  obtain ⟨W, hW⟩ : ∃ W, W = (w.alloc (.cells #[.slice xa q xc] 47)).alloc (.cells #[.slice ya q yc] 47) := ⟨_, rfl⟩
  have B0 : Below w.heap.size w W := by rw [hW]; exact ((Below.refl _ _).alloc (Nat.le_refl _) _).alloc (by simp) _
  have c0 : W.cell? ⟨w.heap.size, 0, none⟩ = some (.slice xa q xc) := by rw [hW]; simp
  have c1 : W.cell? ⟨w.heap.size + 1, 0, none⟩ = some (.slice ya q yc) := by rw [hW]; simp
  have HX := Hid.mk (hax.below B0)
  have HY := Hid.mk (hay.below B0)
  have HA := Hid.mk (ha.below B0)
  clear hax hay ha
  go_enter Tryd.func73, Tryd.ntmps73
  go_wp2_with fail
  rw [← hW]
  clear hW
  go_loopw [11] (fun i wr => ∃ k : Nat, k ≤ n ∧ i = .int .i64 k ∧ sameC x y cols = sameC x y (cols.drop k) ∧ Below W.heap.size W wr) (fun i _ => n - (intOf i).toNat)
  case atStart => exact ⟨0, Nat.zero_le _, rfl, by simp, Below.refl _ _⟩
  case round =>
    obtain ⟨k, hk, rfl, hs, hbw⟩ := hrel
    have d0 := cell_later hbw c0
    have d1 := cell_later hbw c1
    have BW : Below w.heap.size w wr := B0.trans (hbw.mono B0.size)
    by_cases hlt : k < n
    · obtain ⟨b, off, rfl, _, hc⟩ := (HA.out.below hbw).some (by omega)
      have hcx := hc k (by omega)
      have hin := colsOk_at hok k (by omega)
      rw [sameC_step (by omega)] at hs
      obtain ⟨v, hv⟩ : ∃ v, cols.getD k 0 = v := ⟨_, rfl⟩
      rw [hv] at hcx hin hs
      obtain ⟨j, rfl⟩ : ∃ j : Nat, v = (j : Int) := ⟨v.toNat, by omega⟩
      have hj : j < q := by omega
      obtain ⟨b1, off1, rfl, _, hc1⟩ := (HX.out.below hbw).some (by omega)
      obtain ⟨b2, off2, rfl, _, hc2⟩ := (HY.out.below hbw).some (by omega)
      have hx1 := hc1 j (by omega)
      have hy1 := hc2 j (by omega)
      rw [show (j : Int).toNat = j by omega] at hs
      obtain ⟨u, hu⟩ : ∃ u, x.getD j 0 = u := ⟨_, rfl⟩
      obtain ⟨u', hu'⟩ : ∃ u, y.getD j 0 = u := ⟨_, rfl⟩
      rw [hu] at hx1 hs
      rw [hu'] at hy1 hs
      have hki : (k : Int) < (n : Int) := by omega
      have hji : (j : Int) < (q : Int) := by omega
      have HS := Hid.mk hs
      clear hs hc hc1 hc2 hu hu' hv hin
      by_cases e : u = u'
      · have HE : Hid (sameC x y cols = sameC x y (cols.drop (k + 1))) := by show _ = _; rw [HS.out, decide_eq_true e, Bool.true_and]
        have hne : (u != u') = false := by simp [e]
        clear e
        go_wp2_with fail
        go_quiet (fail)
        go_wp2
        go_roundw
        case rel => exact ⟨k + 1, by omega, by go_num, HE.out, by first | exact hbw | exact below_drewN hbw _⟩
        case measure => simp [intOf]; omega
      · have HE : Hid (sameC x y cols = false) := by show _ = _; rw [HS.out, decide_eq_false e, Bool.false_and]
        have hne : (u != u') = true := by simp [e]
        clear e
        go_wp2_with fail
        go_quiet (fail)
        go_wp2
        go_ret
        exact ⟨by rw [HE.out]; rfl, by first | exact BW | exact below_drewN BW _⟩
    · obtain rfl : k = n := by omega
      have HE : Hid (sameC x y cols = true) := by show _ = _; rw [hs]; exact sameC_done hz
      clear hs
      go_wp2
      go_ret
      exact ⟨by rw [HE.out]; rfl, BW⟩

end Go.Proofs.YthliamoeplgblaaDoor
