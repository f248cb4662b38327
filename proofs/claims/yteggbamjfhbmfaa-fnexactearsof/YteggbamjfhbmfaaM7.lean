/- Several texts of one proof, in build order: RepP, RepR, SrtI, DepG, RisP, DepP, ColP. -/
import Derived.Test.YteggbamjfhbmfaaM1
import Derived.Test.YteggbamjfhbmfaaM0
import Derived.Test.YteggbamjfhbmfaaShelfQ
import Derived.Sort.OwnSortedInts
import Derived.Test.YteggbamjfhbmfaaM3
import Derived.Laws.BitsAllLaws

/- One more thing at a slice's end. -/
namespace Go.Proofs.Yteggbamjfhbmfaa
open Go.RowKit

section
variable {α : Type} {A : Rep α} {w w2 w4 : World} {F H F' : Nat → Prop} {e : TypeId} {a a' : Option Addr} {n c c' : Nat} {xs : List α} {cells vs : List Value} {G : Nat → Nat → Prop} {x : α}

theorem sub_append_left {cells vs : List Value} {o k : Nat} (h : o + k ≤ cells.length) : sub (cells ++ vs) o k = sub cells o k := by
  unfold sub
  rw [List.drop_append_of_le_length (by omega), List.take_append_of_le_length (by simp; omega)]
theorem sub_append_right {cells vs : List Value} {k : Nat} (h : vs.length = k) : sub (cells ++ vs) cells.length k = vs := by
  unfold sub
  rw [List.drop_left, ← h, List.take_length]

/-- Behind 'append(l, x)': the slice lies in its old block, or in a new one. -/
theorem Laid.push (h : Laid A w F e a n c xs cells G n) (hF : ∀ b, F b → b < w.heap.size) (hb : Below w.heap.size w w2) (ho : A.Own w2 H vs x) (hH : ∀ b, H b → w.heap.size ≤ b ∧ b < w2.heap.size)
    (hg : ∀ b, b < w2.heap.size → (Value.slice a n c).ownBlock ≠ some b → w4.heap[b]? = w2.heap[b]?) (hown : w4.ownsRow 0 e A.k (.slice a' (n + 1) c') (n + 1) (cells ++ vs))
    (hat : (Value.slice a' (n + 1) c').ownBlock = (Value.slice a n c).ownBlock ∨ ∀ b, (Value.slice a' (n + 1) c').ownBlock = some b → w2.heap.size ≤ b) (hbig : n + 1 ≤ 9223372036854775807)
    (hF1 : ∀ b, F b → F' b) (hF2 : ∀ b, H b → F' b) (hF3 : ∀ b, (Value.slice a' (n + 1) c').ownBlock = some b → F' b) :
    Laid A w4 F' e a' (n + 1) c' (xs ++ [x]) (cells ++ vs) (fun i => if i = n then H else G i) (n + 1) := by
  have hl := A.ownLen ho
  have hcl : cells.length = n * A.k := h.outer.1
  have hz := hb.size
  have hB : ∀ i b, i < n → G i b → b < w.heap.size ∧ (Value.slice a n c).ownBlock ≠ some b := fun i b hi hg' => ⟨hF b (h.rowF i b hi hg').1, (h.rowF i b hi hg').2⟩
  have hO : ∀ b, (Value.slice a n c).ownBlock = some b → b < w.heap.size := fun b hb' => hF b (h.outerF b hb')
  refine ⟨by simp [h.len], hbig, hown, hF3, fun i y hi hy => ?_, fun i b hi hb' => ?_, fun i j b hi hj hij hb' => ?_⟩
  · by_cases ei : i = n
    · subst ei
      simp only [if_true]
      obtain rfl : x = y := by
        rw [List.getElem?_append_right (by rw [h.len]; exact Nat.le_refl _)] at hy
        simpa [h.len] using hy
      have := sub_append_right (cells := cells) hl
      rw [hcl] at this
      rw [this]
      exact A.frame ho (fun b hb' _ => hg b (hH b hb').2 (fun e' => by have := hO b e'; have := (hH b hb').1; omega))
    · simp only [if_neg ei]
      have hi' : i < n := by omega
      rw [List.getElem?_append_left (by rw [h.len]; exact hi')] at hy
      rw [sub_append_left (by rw [hcl]; exact at_mul hi')]
      exact A.frame (A.ownBelow (h.row i y hi' hy) hb) (fun b hb' _ => hg b (by have := (hB i b hi' hb').1; omega) (hB i b hi' hb').2)
  · by_cases ei : i = n
    · subst ei
      simp only [if_true] at hb'
      refine ⟨hF2 b hb', fun e' => ?_⟩
      have h1 := hH b hb'
      rcases hat with h2 | h2
      · rw [h2] at e'
        have := hO b e'
        omega
      · have := h2 b e'
        omega
    · simp only [if_neg ei] at hb'
      have h1 := hB i b (by omega) hb'
      refine ⟨hF1 b (h.rowF i b (by omega) hb').1, fun e' => ?_⟩
      rcases hat with h2 | h2
      · rw [h2] at e'; exact h1.2 e'
      · have := h2 b e'
        omega
  · by_cases ei : i = n
    · subst ei
      simp only [if_true] at hb'
      simp only [if_neg (Ne.symm hij)]
      intro e'
      have := (hB j b (by omega) e').1
      have := (hH b hb').1
      omega
    · simp only [if_neg ei] at hb'
      by_cases ej : j = n
      · simp only [if_pos ej]
        intro e'
        have := (hB i b (by omega) hb').1
        have := (hH b e').1
        omega
      · simp only [if_neg ej]
        exact h.apart i j b (by omega) (by omega) hij hb'

/-- A slice of nothing. -/
theorem Laid.none (A : Rep α) (w : World) (F : Nat → Prop) (e : TypeId) : Laid A w F e none 0 0 [] [] (fun _ _ => False) 0 :=
  ⟨rfl, by omega, World.ownsRow_nil _ _ _ _, fun b hb => (by cases hb), fun i x h => by omega, fun i b h => by omega, fun i j b h => by omega⟩
end

end Go.Proofs.Yteggbamjfhbmfaa

/- Rows of a slice, one by one: a slice that is cut and grown at its end. -/
namespace Go.Proofs.Yteggbamjfhbmfaa
open Go.RowKit

structure RowsOf {α : Type} (A : Rep α) (w : World) (F : Nat → Prop) (ob : Option Nat) (n : Nat) (xs : List α) (cells : List Value) (G : Nat → Nat → Prop) : Prop where
  len : xs.length = n
  clen : cells.length = n * A.k
  row : ∀ i x, i < n → xs[i]? = some x → A.Own w (G i) (sub cells (i * A.k) A.k) x
  rowF : ∀ i b, i < n → G i b → F b ∧ ob ≠ some b
  apart : ∀ i j b, i < n → j < n → i ≠ j → G i b → ¬ G j b

section
variable {α : Type} {A : Rep α} {w w' : World} {F F' H : Nat → Prop} {e : TypeId} {a : Option Addr} {n m c : Nat} {xs : List α} {cells vs : List Value} {G : Nat → Nat → Prop} {x : α} {ob ob' : Option Nat}

theorem sub_take {cells : List Value} {o k m : Nat} (h : o + k ≤ m) : sub (cells.take m) o k = sub cells o k := by
  unfold sub
  rw [List.drop_take, List.take_take, Nat.min_eq_left (by omega)]

theorem RowsOf.of (h : Laid A w F e a n c xs cells G n) (hm : m ≤ n) : RowsOf A w F (Value.slice a n c).ownBlock m (xs.take m) (cells.take (m * A.k)) G where
  len := by rw [List.length_take, h.len]; omega
  clen := by
    have h1 : cells.length = n * A.k := h.outer.1
    have h2 := Nat.mul_le_mul_right A.k hm
    rw [List.length_take, h1]; omega
  row := fun i x hi hx => by
    rw [List.getElem?_take, if_pos hi] at hx
    rw [sub_take (at_mul hi)]
    exact h.row i x (by omega) hx
  rowF := fun i b hi hb => h.rowF i b (by omega) hb
  apart := fun i j b hi hj hij => h.apart i j b (by omega) (by omega) hij

theorem RowsOf.to (h : RowsOf A w F ob n xs cells G) (hf : ∀ i b, i < n → G i b → b < w.heap.size → w'.heap[b]? = w.heap[b]?) (hF : ∀ i b, i < n → G i b → F' b ∧ ob' ≠ some b) : RowsOf A w' F' ob' n xs cells G where
  len := h.len
  clen := h.clen
  row := fun i x hi hx => A.frame (h.row i x hi hx) (fun b h1 h2 => hf i b hi h1 h2)
  rowF := hF
  apart := h.apart

theorem RowsOf.add (h : RowsOf A w F ob n xs cells G) (ho : A.Own w H vs x) (hH : ∀ b, H b → F b ∧ ob ≠ some b) (hd : ∀ i b, i < n → G i b → ¬ H b) : RowsOf A w F ob (n + 1) (xs ++ [x]) (cells ++ vs) (fun i => if i = n then H else G i) where
  len := by simp [h.len]
  clen := by rw [List.length_append, h.clen, A.ownLen ho, Nat.succ_mul]
  row := fun i y hi hy => by
    by_cases ei : i = n
    · subst ei
      simp only [if_true]
      obtain rfl : x = y := by
        rw [List.getElem?_append_right (by rw [h.len]; exact Nat.le_refl _)] at hy
        simpa [h.len] using hy
      have := sub_append_right (cells := cells) (A.ownLen ho)
      rw [h.clen] at this
      rw [this]
      exact ho
    · simp only [if_neg ei]
      have hi' : i < n := by omega
      rw [List.getElem?_append_left (by rw [h.len]; exact hi')] at hy
      rw [sub_append_left (by rw [h.clen]; exact at_mul hi')]
      exact h.row i y hi' hy
  rowF := fun i b hi hb => by
    by_cases ei : i = n
    · simp only [if_pos ei] at hb; exact hH b hb
    · simp only [if_neg ei] at hb; exact h.rowF i b (by omega) hb
  apart := fun i j b hi hj hij hb => by
    by_cases ei : i = n
    · simp only [if_pos ei] at hb
      rw [if_neg (by omega)]
      exact fun hj' => hd j b (by omega) hj' hb
    · simp only [if_neg ei] at hb
      by_cases ej : j = n
      · rw [if_pos ej]
        exact hd i b (by omega) hb
      · rw [if_neg ej]
        exact h.apart i j b (by omega) (by omega) hij hb

theorem RowsOf.laid (h : RowsOf A w F (Value.slice a n c).ownBlock n xs cells G) (hbig : n ≤ 9223372036854775807) (ho : w.ownsRow 0 e A.k (.slice a n c) n cells) (hF : ∀ b, (Value.slice a n c).ownBlock = some b → F b) : Laid A w F e a n c xs cells G n :=
  ⟨h.len, hbig, ho, hF, h.row, h.rowF, h.apart⟩

theorem owns_take {base : Nat} {size : Nat} {g : Nat} {ys : List Value} (h : w.ownsRow base e size (.slice (some ⟨g, 0, none⟩) n c) n ys) (hm : m ≤ n) : w.ownsRow base e size (.slice (some ⟨g, 0, none⟩) m c) m (ys.take (m * size)) := by
  have h2 := Nat.mul_le_mul_right size hm
  refine ⟨by rw [List.length_take, h.1]; omega, ?_⟩
  rcases h.2 with ⟨h0, _⟩ | ⟨g', cap, cur, e1, e2, e3, e4, e5, e6, e7⟩
  · cases h0
  · simp only [Value.slice.injEq, Option.some.injEq, Addr.mk.injEq, and_true, true_and] at e1
    obtain ⟨rfl, rfl⟩ := e1
    refine .inr ⟨g, c, cur, rfl, e2, e3, by omega, e5, e6, ?_⟩
    rw [← e7, List.take_take, Nat.min_eq_left h2]
end

end Go.Proofs.Yteggbamjfhbmfaa

/- slices.Sort and slices.Compact at ints, over a slice that the call owns. -/
namespace Go.Proofs.Yteggbamjfhbmfaa
open Go.RowKit Go.Sort

theorem sortInts_own (B : Nat) (a : Option Addr) (n c : Nat) (zs : List Int) (w : World) (hz : zs.length = n) (hn : n ≤ 1048576) (hB : B ≤ w.heap.size) (ho : w.ownsRow B 3 1 (.slice a n c) n (zs.map (.int .i64))) :
    Calls Try.prog 91 #[.slice a n c] w fun e w' => e = .returned (.tuple #[]) ∧ w'.ownsRow B 3 1 (.slice a n c) n ((zs.mergeSort fun x y => decide (x ≤ y)).map (.int .i64)) ∧ Below B w w' := by
  by_cases h0 : n = 0
  · subst h0
    obtain rfl := List.eq_nil_of_length_eq_zero hz
    refine (Try.slices_Sort_int_none a c w).mono ?_
    rintro e w' ⟨rfl, rfl⟩
    exact ⟨rfl, by simpa using ho, Below.refl _ _⟩
  · rcases ho.2 with ⟨_, h⟩ | ⟨g, cap, cur, hv, hb, hg, hc1, hc2, hc3, hc4⟩
    · exact absurd h h0
    · simp only [Value.slice.injEq, true_and] at hv
      obtain ⟨rfl, rfl⟩ := hv
      have hcur : cur.toList.take zs.length = zs.map (.int .i64) := by rw [hz]; simpa using hc4
      have hH := holds_of_blockI hg hcur
      have h9 := Try.slices_Sort_int g 0 c zs w hH (Array.getElem?_eq_some_iff.1 hg).1 (by omega)
      rw [hz] at h9
      refine h9.mono ?_
      rintro e w' ⟨rfl, q, os, rfl⟩
      have hl : (zs.mergeSort fun x y => decide (x ≤ y)).length = zs.length := List.length_mergeSort ..
      have ho2 := ownsRow_sortedI (n := q) (os := os) (ss := zs) hl hb hg (by omega) hc2 hc3
      rw [hz] at ho2
      exact ⟨rfl, ho2, (Below.refl _ _).grown (grownBy_sortedI _) hB (fun j hj => by cases hj; exact hb)⟩

theorem compactInts_own (B : Nat) (a : Option Addr) (n c : Nat) (zs : List Int) (w : World) (hz : zs.length = n) (hn : n ≤ 1048576) (hB : B ≤ w.heap.size) (ho : w.ownsRow B 3 1 (.slice a n c) n (zs.map (.int .i64))) :
    Calls Try.prog 92 #[.slice a n c] w fun e w' => ∃ m, e = .returned (.slice a m c) ∧ (Lib.compact zs).length = m ∧ w'.ownsRow B 3 1 (.slice a m c) m ((Lib.compact zs).map (.int .i64)) ∧ Below B w w' := by
  by_cases h0 : n = 0
  · subst h0
    obtain rfl := List.eq_nil_of_length_eq_zero hz
    refine (Try.slices_Compact_int_empty a c w).mono ?_
    rintro e w' ⟨rfl, rfl⟩
    exact ⟨0, rfl, rfl, by simpa [Lib.compact, Lib.compactUpTo] using ho, Below.refl _ _⟩
  · rcases ho.2 with ⟨_, h⟩ | ⟨g, cap, cur, hv, hb, hg, hc1, hc2, hc3, hc4⟩
    · exact absurd h h0
    · simp only [Value.slice.injEq, true_and] at hv
      obtain ⟨rfl, rfl⟩ := hv
      have hcur : cur.toList.take zs.length = zs.map (.int .i64) := by rw [hz]; simpa using hc4
      have hH := holds_of_blockI hg hcur
      have h9 := Try.slices_Compact_int g 0 c zs w hH (by omega) (by omega)
      rw [hz] at h9
      refine h9.mono ?_
      rintro e w' ⟨rfl, q, rfl⟩
      have hle : (Lib.compact zs).length ≤ n := by
        rw [← hz]
        unfold Lib.compact Lib.compactUpTo
        rw [List.length_map]
        exact Nat.le_trans (List.length_filter_le _ _) (by simp)
      obtain ⟨ts, hts⟩ : ∃ ts, ts = Lib.compact zs ++ List.replicate (n - (Lib.compact zs).length) (0 : Int) := ⟨_, rfl⟩
      have hl : ts.length = zs.length := by rw [hts, List.length_append, List.length_replicate, hz]; omega
      rw [← hts]
      have ho2 := ownsRow_sortedI (n := q) (os := #[]) (ss := zs) hl hb hg (by omega) hc2 hc3
      have hg2 : w.grownBy (grow (putRow (Value.int .i64) (Sort.ahead w q) g 0 ts.toArray) #[]) (some g) := grownBy_sortedI _
      rw [hz] at ho2
      rw [grow_empty] at ho2 hg2
      have ho3 := owns_take ho2 hle
      have ht : (ts.map (Value.int .i64)).take ((Lib.compact zs).length * 1) = (Lib.compact zs).map (.int .i64) := by
        rw [Nat.mul_one, ← List.map_take, hts, List.take_left']
        rfl
      rw [ht] at ho3
      exact ⟨_, rfl, rfl, ho3, (Below.refl _ _).grown hg2 hB (fun j hj => by cases hj; exact hb)⟩

end Go.Proofs.Yteggbamjfhbmfaa

/- Dependencies as things in memory. -/
namespace Go.Proofs.Yteggbamjfhbmfaa
open Go.RowKit

/-- A dependency: From, To. -/
abbrev Dep := List Int × List Int
abbrev RDep : Rep Dep := Rep.pair RInts RInts
theorem RDep_k : RDep.k = 2 := rfl

theorem RDep.at_open {w : World} {cs : List Value} {x : Dep} (h : RDep.At w cs x) : ∃ fa fn fc ta tn tc, cs = [.slice fa fn fc, .slice ta tn tc] ∧
    (x.1.length = fn ∧ fn ≤ 9223372036854775807 ∧ At w fa x.1) ∧ (x.2.length = tn ∧ tn ≤ 9223372036854775807 ∧ At w ta x.2) := by
  obtain ⟨c1, c2, rfl, ⟨fa, fn, fc, rfl, t1, t2, t3, _⟩, ⟨ta, tn, tc, rfl, u1, u2, u3, _⟩⟩ := h
  exact ⟨fa, fn, fc, ta, tn, tc, rfl, ⟨t1, t2, atSl_int.1 t3⟩, ⟨u1, u2, atSl_int.1 u3⟩⟩

/-- What a dependency by value is, slice by slice. -/
theorem RDep.at_iff {w : World} {fa : Option Addr} {fn fc : Nat} {ta : Option Addr} {tn tc : Nat} {x : Dep} (h : RDep.At w [.slice fa fn fc, .slice ta tn tc] x) :
    (x.1.length = fn ∧ fn ≤ 9223372036854775807 ∧ At w fa x.1 ∧ (fa = none → fc = 0)) ∧ (x.2.length = tn ∧ tn ≤ 9223372036854775807 ∧ At w ta x.2 ∧ (ta = none → tc = 0)) := by
  obtain ⟨c1, c2, e, ⟨fa', fn', fc', rfl, t1, t2, t3, t4⟩, ⟨ta', tn', tc', rfl, u1, u2, u3, u4⟩⟩ := h
  simp only [List.cons_append, List.nil_append, List.cons.injEq, Value.slice.injEq, and_true] at e
  obtain ⟨⟨rfl, rfl, rfl⟩, rfl, rfl, rfl⟩ := e
  exact ⟨⟨t1, t2, atSl_int.1 t3, t4⟩, ⟨u1, u2, atSl_int.1 u3, u4⟩⟩

theorem RDep.own_mk {w : World} {F F1 F2 : Nat → Prop} {fs ts : List Int} {fa : Option Addr} {fn fc : Nat} {ta : Option Addr} {tn tc : Nat}
    (h1 : RInts.Own w F1 [.slice fa fn fc] fs) (h2 : RInts.Own w F2 [.slice ta tn tc] ts) (f1 : ∀ b, F1 b → F b) (f2 : ∀ b, F2 b → F b) (d12 : ∀ b, F1 b → ¬ F2 b) : RDep.Own w F [.slice fa fn fc, .slice ta tn tc] (fs, ts) :=
  ⟨[_], [_], F1, F2, rfl, h1, h2, f1, f2, d12⟩

theorem RDep.own_open {w : World} {F : Nat → Prop} {cs : List Value} {x : Dep} (h : RDep.Own w F cs x) : ∃ fa fn fc ta tn tc F1 F2, cs = [.slice fa fn fc, .slice ta tn tc] ∧
    RInts.Own w F1 [.slice fa fn fc] x.1 ∧ RInts.Own w F2 [.slice ta tn tc] x.2 ∧ (∀ b, F1 b → F b) ∧ (∀ b, F2 b → F b) ∧ (∀ b, F1 b → ¬ F2 b) := by
  obtain ⟨c1, d1, F1, F2, rfl, h1, h2, a1, a2, a3⟩ := h
  obtain ⟨ta, tn, tc, tcells, tG, rfl, tl⟩ := h1
  obtain ⟨ca, cn, cc, ccells, cG, rfl, cl⟩ := h2
  exact ⟨ta, tn, tc, ca, cn, cc, F1, F2, rfl, ⟨ta, tn, tc, tcells, tG, rfl, tl⟩, ⟨ca, cn, cc, ccells, cG, rfl, cl⟩, a1, a2, a3⟩

/-- How many slots the laws count for a dependency; and for some. -/
def dcost (x : Dep) : Nat := x.1.length + x.2.length
abbrev dsum (xs : List Dep) (k : Nat) : Nat := szL dcost xs k
theorem dsum_zero (xs : List Dep) : dsum xs 0 = 0 := by simp [dsum, szL]
theorem dsum_succ {xs : List Dep} {k : Nat} {x : Dep} (h : xs[k]? = some x) : dsum xs (k + 1) = dsum xs k + dcost x := szL_succ dcost h
theorem dsum_mono (xs : List Dep) (j k : Nat) (h : j ≤ k) : dsum xs j ≤ dsum xs k := szL_mono dcost xs j k h
theorem dsum_each {xs : List Dep} {n i : Nat} {x : Dep} (hn : xs.length = n) (h : xs[i]? = some x) : dcost x ≤ dsum xs n := by
  have hi := (List.getElem?_eq_some_iff.1 h).1
  have h1 := szL_succ dcost h
  have h2 := szL_mono dcost xs (i + 1) n (by omega)
  show dcost x ≤ szL dcost xs n
  omega

/-- Dependencies within the laws' bound. -/
def SmDep (x : Dep) : Prop := x.1.length ≤ 1048576 ∧ x.2.length ≤ 1048576
theorem SmDep.of {x : Dep} (h : dcost x ≤ 1048576) : SmDep x := by unfold dcost at h; exact ⟨by omega, by omega⟩
def SmD (xs : List Dep) (n : Nat) : Prop := xs.length = n ∧ n + dsum xs n ≤ 1048576
theorem SmD.n {xs : List Dep} {n : Nat} (h : SmD xs n) : n ≤ 1048576 := by have := h.2; omega
theorem SmD.sum {xs : List Dep} {n : Nat} (h : SmD xs n) : dsum xs n ≤ 1048576 := by have := h.2; omega
theorem SmD.each {xs : List Dep} {n : Nat} (h : SmD xs n) {i : Nat} {x : Dep} (hx : xs[i]? = some x) : SmDep x := by
  have := dsum_each h.1 hx
  have := h.2
  exact SmDep.of (by omega)

/-- A slice of dependencies as it is read: what a row of it is. -/
abbrev AtD (w : World) (a : Option Addr) (xs : List Dep) : Prop := AtSl RDep w a xs
theorem AtD.row {w : World} {a : Option Addr} {xs : List Dep} (h : AtD w a xs) (hp : 0 < xs.length) : ∃ b off, a = some ⟨b, off, none⟩ ∧ b < w.heap.size ∧ ∀ (i : Nat) (x : Dep), xs[i]? = some x → ∃ fa fn fc ta tn tc,
    w.cell? ⟨b, off + i * 2, none⟩ = some (.slice fa fn fc) ∧ w.cell? ⟨b, off + i * 2 + 1, none⟩ = some (.slice ta tn tc) ∧ (x.1.length = fn ∧ fn ≤ 9223372036854775807 ∧ At w fa x.1) ∧ (x.2.length = tn ∧ tn ≤ 9223372036854775807 ∧ At w ta x.2) := by
  obtain ⟨b, off, rfl, hc⟩ := AtSl.each h hp
  have row : ∀ (i : Nat) (x : Dep), xs[i]? = some x → ∃ fa fn fc ta tn tc,
    w.cell? ⟨b, off + i * 2, none⟩ = some (.slice fa fn fc) ∧ w.cell? ⟨b, off + i * 2 + 1, none⟩ = some (.slice ta tn tc) ∧ (x.1.length = fn ∧ fn ≤ 9223372036854775807 ∧ At w fa x.1) ∧ (x.2.length = tn ∧ tn ≤ 9223372036854775807 ∧ At w ta x.2) := by
    intro i x hx
    obtain ⟨cs, h1, h2⟩ := hc i x hx
    obtain ⟨fa, fn, fc, ta, tn, tc, rfl, t, u⟩ := RDep.at_open h2
    exact ⟨fa, fn, fc, ta, tn, tc, h1 0 _ rfl, h1 1 _ rfl, t, u⟩
  refine ⟨b, off, rfl, ?_, row⟩
  obtain ⟨fa, fn, fc, ta, tn, tc, h1, _⟩ := row 0 xs[0] (List.getElem?_eq_getElem hp)
  exact World.block_lt_of_cell? _ _ h1

theorem AtD.rowD {w : World} {a : Option Addr} {xs : List Dep} (h : AtD w a xs) (hp : 0 < xs.length) : ∃ b off, a = some ⟨b, off, none⟩ ∧ ∀ (i : Nat) (x : Dep), xs[i]? = some x → ∃ fa fn fc ta tn tc,
    w.cell? ⟨b, off + i * 2, none⟩ = some (.slice fa fn fc) ∧ w.cell? ⟨b, off + i * 2 + 1, none⟩ = some (.slice ta tn tc) ∧ RDep.At w [.slice fa fn fc, .slice ta tn tc] x := by
  obtain ⟨b, off, rfl, hc⟩ := AtSl.each h hp
  refine ⟨b, off, rfl, fun i x hx => ?_⟩
  obtain ⟨cs, h1, h2⟩ := hc i x hx
  obtain ⟨fa, fn, fc, ta, tn, tc, rfl, t, u⟩ := RDep.at_open h2
  exact ⟨fa, fn, fc, ta, tn, tc, h1 0 _ rfl, h1 1 _ rfl, h2⟩
theorem AtD.one {w : World} {b : Nat} {fa : Option Addr} {fn fc : Nat} {ta : Option Addr} {tn tc : Nat} {x : Dep} (h0 : w.cell? ⟨b, 0, none⟩ = some (.slice fa fn fc)) (h1 : w.cell? ⟨b, 1, none⟩ = some (.slice ta tn tc)) (h : RDep.At w [.slice fa fn fc, .slice ta tn tc] x) :
    AtD w (some ⟨b, 0, none⟩) [x] := by
  refine .inr ⟨b, 0, rfl, fun i y hy => ?_⟩
  have hi : i = 0 := by have := (List.getElem?_eq_some_iff.1 hy).1; simp at this; omega
  subst hi
  obtain rfl : x = y := by simpa using hy
  refine ⟨_, fun j v hv => ?_, h⟩
  match j, hv with
  | 0, hv => obtain rfl := Option.some.inj hv; simpa using h0
  | 1, hv => obtain rfl := Option.some.inj hv; simpa using h1

end Go.Proofs.Yteggbamjfhbmfaa

/- Plain: rising lists of numbers. -/
namespace Go.Proofs.Yteggbamjfhbmfaa
open Go.RowKit

/-- Rising behind p, and below c. -/
def risB (c : Int) : Int → List Int → Bool
  | _, [] => true
  | p, z :: zs => decide (p < z) && (decide (z < c) && risB c z zs)
def ris (c : Int) (l : List Int) : Bool := risB c (-1) l
theorem risB_done (c p : Int) (zs : List Int) (n : Nat) (h : zs.length = n) : risB c p (zs.drop n) = true := by
  rw [List.drop_of_length_le (by omega)]; rfl
theorem risB_step (c p : Int) (zs : List Int) (k : Nat) (h : k < zs.length) : risB c p (zs.drop k) = (decide (p < zs.getD k 0) && (decide (zs.getD k 0 < c) && risB c (zs.getD k 0) (zs.drop (k + 1)))) := by
  rw [List.drop_eq_getElem_cons h]
  have e : zs.getD k 0 = zs[k] := by simp [List.getD, h]
  rw [e]
  rfl

end Go.Proofs.Yteggbamjfhbmfaa

/- Plain: rising lists of columns, and dependencies that are good. -/
namespace Go.Proofs.Yteggbamjfhbmfaa
open Go.RowKit

def goodDep (c : Int) (d : Dep) : Bool := ris c d.1 && ris c d.2
def allDep (c : Int) (l : List Dep) : Bool := l.all (goodDep c)
def goodDeps (l : List Dep) (c : Int) : Bool := decide (1 ≤ c) && (decide (c ≤ 6) && (decide (l.length ≤ 10) && allDep c l))
theorem allDep_done (c : Int) (xs : List Dep) (n : Nat) (h : xs.length = n) : allDep c (xs.drop n) = true := by
  rw [List.drop_of_length_le (by omega)]; rfl
theorem allDep_step (c : Int) {xs : List Dep} {k : Nat} {x : Dep} (h : xs[k]? = some x) : allDep c (xs.drop k) = (ris c x.1 && (ris c x.2 && allDep c (xs.drop (k + 1)))) := by
  obtain ⟨hk, rfl⟩ := List.getElem?_eq_some_iff.1 h
  rw [List.drop_eq_getElem_cons hk]
  show (ris c xs[k].1 && ris c xs[k].2 && allDep c _) = _
  rw [Bool.and_assoc]

end Go.Proofs.Yteggbamjfhbmfaa

/- Plain: sets of columns as numbers below 64, and what they tell. -/
namespace Go.Proofs.Yteggbamjfhbmfaa
open Go.RowKit

/-- The columns of a set, rising. -/
def bl (s : Nat) : List Int := ((List.range 6).filter (fun i => s.testBit i)).map Int.ofNat
/-- The set of some columns. -/
def mk (l : List Int) : Nat := l.foldl (fun s k => s ||| 2 ^ k.toNat) 0
/-- One set within another one. -/
def sb (a b : Nat) : Bool := a ||| b == b

theorem sb_iff {a b : Nat} : sb a b = true ↔ a ||| b = b := by unfold sb; exact beq_iff_eq
theorem sb_bit {a b : Nat} (h : sb a b = true) (i : Nat) (hi : a.testBit i = true) : b.testBit i = true := by
  rw [← sb_iff.1 h, Nat.testBit_or, hi]; rfl
theorem sb_of_bits {a b : Nat} (h : ∀ i, a.testBit i = true → b.testBit i = true) : sb a b = true := by
  rw [sb_iff]
  apply Nat.eq_of_testBit_eq
  intro i
  rw [Nat.testBit_or]
  cases ha : a.testBit i with
  | false => rfl
  | true => rw [h i ha]; rfl
theorem sb_refl (a : Nat) : sb a a = true := sb_of_bits fun _ h => h
theorem sb_trans {a b c : Nat} (h : sb a b = true) (k : sb b c = true) : sb a c = true := sb_of_bits fun i hi => sb_bit k i (sb_bit h i hi)
theorem sb_or_left (a b : Nat) : sb a (a ||| b) = true := sb_of_bits fun i hi => by rw [Nat.testBit_or, hi]; rfl
theorem sb_or_right (a b : Nat) : sb b (a ||| b) = true := sb_of_bits fun i hi => by rw [Nat.testBit_or, hi]; simp
theorem sb_or {a b c : Nat} (h : sb a c = true) (k : sb b c = true) : sb (a ||| b) c = true := sb_of_bits fun i hi => by
  rw [Nat.testBit_or] at hi
  cases ha : a.testBit i with
  | true => exact sb_bit h i ha
  | false => rw [ha] at hi; exact sb_bit k i (by simpa using hi)
theorem sb_antisymm {a b : Nat} (h : sb a b = true) (k : sb b a = true) : a = b := by
  have h1 := sb_iff.1 h
  have h2 := sb_iff.1 k
  rw [Nat.or_comm] at h2
  exact h2.symm.trans h1
theorem or_lt64 {a b : Nat} (h : a < 64) (k : b < 64) : a ||| b < 64 := Nat.or_lt_two_pow (n := 6) h k
theorem lt_or {a b : Nat} (h : sb b a = false) : a < a ||| b := by
  have h1 : a ≤ a ||| b := Nat.left_le_or
  have h2 : a ≠ a ||| b := fun e => by
    have : sb b a = true := sb_iff.2 (by rw [Nat.or_comm]; exact e.symm)
    rw [h] at this; cases this
  omega
theorem andNot_sb {a b : Nat} (ha : a < 64) (hb : b < 64) : (a &&& (18446744073709551615 - b) = 0) ↔ sb a b = true := by
  have key : ∀ i, i < 64 → (18446744073709551615 - b).testBit i = !(b.testBit i) := fun i hi => by
    have := Nat.testBit_two_pow_sub_succ (x := b) (n := 64) (by omega) i
    rw [show (2 ^ 64 - (b + 1)) = 18446744073709551615 - b by omega] at this
    rw [this]; simp [hi]
  constructor
  · intro h
    refine sb_of_bits fun i hi => ?_
    have h6 : i < 64 := by
      by_cases h6 : i < 64
      · exact h6
      · rw [Nat.testBit_lt_two_pow (Nat.lt_of_lt_of_le ha (by have : 2 ^ 6 ≤ 2 ^ i := Nat.pow_le_pow_right (by omega) (by omega); omega))] at hi; cases hi
    have h1 : (a &&& (18446744073709551615 - b)).testBit i = false := by rw [h]; simp
    rw [Nat.testBit_and, hi, key i h6] at h1
    simpa using h1
  · intro h
    apply Nat.eq_of_testBit_eq
    intro i
    rw [Nat.testBit_and]
    simp only [Nat.zero_testBit]
    cases hi : a.testBit i with
    | false => rfl
    | true =>
      have h6 : i < 64 := by
        by_cases h6 : i < 64
        · exact h6
        · rw [Nat.testBit_lt_two_pow (Nat.lt_of_lt_of_le ha (by have : 2 ^ 6 ≤ 2 ^ i := Nat.pow_le_pow_right (by omega) (by omega); omega))] at hi; cases hi
      rw [key i h6, sb_bit h i hi]; rfl

/-- Rising lists with the same numbers are the same. -/
theorem srt_ext : ∀ {a b : List Int}, a.Pairwise (· < ·) → b.Pairwise (· < ·) → (∀ x, x ∈ a ↔ x ∈ b) → a = b
  | [], [], _, _, _ => rfl
  | [], y :: b, _, _, h => absurd ((h y).2 (by simp)) (by simp)
  | x :: a, [], _, _, h => absurd ((h x).1 (by simp)) (by simp)
  | x :: a, y :: b, ha, hb, h => by
    obtain ⟨ha1, ha2⟩ := List.pairwise_cons.1 ha
    obtain ⟨hb1, hb2⟩ := List.pairwise_cons.1 hb
    have e : x = y := by
      have h1 := (h x).1 (by simp)
      have h2 := (h y).2 (by simp)
      simp only [List.mem_cons] at h1 h2
      rcases h1 with h1 | h1
      · exact h1
      · rcases h2 with h2 | h2
        · exact h2.symm
        · have := hb1 x h1; have := ha1 y h2; omega
    subst e
    congr 1
    refine srt_ext ha2 hb2 fun z => ?_
    constructor
    · intro hz
      have := (h z).1 (by simp [hz])
      simp only [List.mem_cons] at this
      rcases this with rfl | this
      · have := ha1 z hz; omega
      · exact this
    · intro hz
      have := (h z).2 (by simp [hz])
      simp only [List.mem_cons] at this
      rcases this with rfl | this
      · have := hb1 z hz; omega
      · exact this

theorem mem_bl {s : Nat} {x : Int} : x ∈ bl s ↔ ∃ i : Nat, i < 6 ∧ s.testBit i = true ∧ x = (i : Int) := by
  unfold bl
  simp only [List.mem_map, List.mem_filter, List.mem_range]
  constructor
  · rintro ⟨i, ⟨h1, h2⟩, rfl⟩; exact ⟨i, h1, h2, rfl⟩
  · rintro ⟨i, h1, h2, rfl⟩; exact ⟨i, ⟨h1, h2⟩, rfl⟩
theorem bl_sorted (s : Nat) : (bl s).Pairwise (· < ·) := by
  unfold bl
  rw [List.pairwise_map]
  refine List.Pairwise.imp ?_ ((List.pairwise_lt_range (n := 6)).filter _)
  intro a b h
  show (a : Int) < (b : Int)
  omega
theorem mk_bit (l : List Int) (hl : ∀ x ∈ l, 0 ≤ x) (i : Nat) : (mk l).testBit i = true ↔ (i : Int) ∈ l := by
  have key : ∀ (l : List Int) (s : Nat), (∀ x ∈ l, 0 ≤ x) → ((l.foldl (fun s k => s ||| 2 ^ k.toNat) s).testBit i = true ↔ s.testBit i = true ∨ (i : Int) ∈ l) := by
    intro l
    induction l with
    | nil => intro s _; simp
    | cons x l ih =>
      intro s h
      rw [List.foldl_cons, ih _ (fun y hy => h y (by simp [hy])), Nat.testBit_or, Nat.testBit_two_pow]
      have hx := h x (by simp)
      simp only [Bool.or_eq_true, decide_eq_true_eq, List.mem_cons]
      constructor
      · rintro ((h1 | h1) | h1)
        · exact .inl h1
        · exact .inr (.inl (by omega))
        · exact .inr (.inr h1)
      · rintro (h1 | h1 | h1)
        · exact .inl (.inl h1)
        · exact .inl (.inr (by omega))
        · exact .inr h1
  have := key l 0 hl
  simpa [mk] using this
theorem risB_mem {c p : Int} {l : List Int} (h : risB c p l = true) : l.Pairwise (· < ·) ∧ ∀ x ∈ l, p < x ∧ x < c := by
  induction l generalizing p with
  | nil => exact ⟨List.Pairwise.nil, fun x hx => by cases hx⟩
  | cons z l ih =>
    simp only [risB, Bool.and_eq_true, decide_eq_true_eq] at h
    obtain ⟨h1, h2, h3⟩ := h
    obtain ⟨k1, k2⟩ := ih h3
    refine ⟨List.pairwise_cons.2 ⟨fun x hx => (k2 x hx).1, k1⟩, fun x hx => ?_⟩
    simp only [List.mem_cons] at hx
    rcases hx with rfl | hx
    · exact ⟨h1, h2⟩
    · have := k2 x hx; exact ⟨by omega, this.2⟩
theorem ris_nonneg {c : Int} {l : List Int} (h : ris c l = true) : ∀ x ∈ l, 0 ≤ x := fun x hx => by have := ((risB_mem h).2 x hx).1; omega
theorem bl_mk {c : Int} {l : List Int} (hc : c ≤ 6) (h : ris c l = true) : bl (mk l) = l := by
  refine srt_ext (bl_sorted _) (risB_mem h).1 fun x => ?_
  rw [mem_bl]
  have hn := ris_nonneg h
  constructor
  · rintro ⟨i, _, h2, rfl⟩; exact (mk_bit l hn i).1 h2
  · intro hx
    have h1 := (risB_mem h).2 x hx
    have h0 := hn x hx
    refine ⟨x.toNat, by omega, (mk_bit l hn x.toNat).2 (by rw [Int.toNat_of_nonneg h0]; exact hx), by omega⟩
theorem mk_lt {c : Int} {l : List Int} (hc : c ≤ 6) (h : ris c l = true) : mk l < 64 := by
  refine Nat.lt_pow_two_of_testBit (n := 6) _ fun i hi => ?_
  cases hb : (mk l).testBit i with
  | false => rfl
  | true =>
    have := ((risB_mem h).2 _ ((mk_bit l (ris_nonneg h) i).1 hb)).2
    omega
theorem bl_len (s : Nat) : (bl s).length ≤ 6 := by
  unfold bl
  rw [List.length_map]
  exact Nat.le_trans (List.length_filter_le _ _) (by simp)
theorem bl_in {s : Nat} {x : Int} (h : x ∈ bl s) : 0 ≤ x ∧ x < 6 := by obtain ⟨i, h1, _, rfl⟩ := mem_bl.1 h; omega

/-- What is told, by one step and another one, and no more: T of S. -/
def clsd (l : List (Nat × Nat)) (T : Nat) : Prop := ∀ d ∈ l, sb d.1 T = true → sb d.2 T = true
structure IsClo (l : List (Nat × Nat)) (S T : Nat) : Prop where
  lt : T < 64
  has : sb S T = true
  all : clsd l T
  least : ∀ U, sb S U = true → clsd l U → sb T U = true
theorem IsClo.eq {l : List (Nat × Nat)} {S T T' : Nat} (h : IsClo l S T) (k : IsClo l S T') : T = T' := sb_antisymm (h.least _ k.has k.all) (k.least _ h.has h.all)
noncomputable def clo (l : List (Nat × Nat)) (S : Nat) : Nat := Classical.epsilon (IsClo l S)
theorem IsClo.clo_eq {l : List (Nat × Nat)} {S T : Nat} (h : IsClo l S T) : clo l S = T := (Classical.epsilon_spec (p := IsClo l S) ⟨T, h⟩).eq h
theorem IsClo.is {l : List (Nat × Nat)} {S T : Nat} (h : IsClo l S T) : IsClo l S (clo l S) := by rw [h.clo_eq]; exact h
def dm (d : Dep) : Nat × Nat := (mk d.1, mk d.2)
def dms (l : List Dep) : List (Nat × Nat) := l.map dm

end Go.Proofs.Yteggbamjfhbmfaa
