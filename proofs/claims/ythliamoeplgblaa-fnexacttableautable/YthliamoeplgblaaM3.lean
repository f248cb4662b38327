/- Several texts of one proof, in build order: RepN, MkL, RepD, Blk, TbG, RepP, IntM, IntsR. -/
import Derived.Test.YthliamoeplgblaaM2
import Derived.Test.YthliamoeplgblaaM1

/- Slices of numbers and of slices of numbers as things in memory. -/
namespace Go.Proofs.Ythliamoeplgblaa
open Go.RowKit

theorem atSl_int {w : World} {a : Option Addr} {zs : List Int} : AtSl Rep.int w a zs ↔ At w a zs := by
  constructor
  · rintro (h | ⟨b, off, rfl, hc⟩)
    · exact .inl h
    · refine .inr ⟨b, off, rfl, fun i hi => ?_⟩
      obtain ⟨cs, h1, h2⟩ := hc i zs[i] (List.getElem?_eq_getElem hi)
      obtain rfl : cs = [.int .i64 zs[i]] := h2
      have := h1 0 _ rfl
      simpa [Rep.int, List.getD, hi] using this
  · rintro (h | ⟨b, off, rfl, hc⟩)
    · exact .inl h
    · refine .inr ⟨b, off, rfl, fun i x hx => ⟨[.int .i64 x], fun j v hv => ?_, rfl⟩⟩
      have hi := (List.getElem?_eq_some_iff.1 hx).1
      have := hc i hi
      match j, hv with
      | 0, hv =>
        obtain rfl := Option.some.inj hv
        simpa [Rep.int, List.getD, hx] using this

abbrev RInts : Rep (List Int) := Rep.slice 3 Rep.int
abbrev RPairs : Rep (List (List Int)) := Rep.slice 54 RInts

theorem RInts.at_iff {w : World} {a : Option Addr} {n c : Nat} {zs : List Int} : RInts.At w [.slice a n c] zs ↔ zs.length = n ∧ n ≤ 9223372036854775807 ∧ At w a zs ∧ (a = none → c = 0) := by
  constructor
  · rintro ⟨a', n', c', e, h1, h2, h3, h4⟩
    simp only [List.cons.injEq, Value.slice.injEq, and_true] at e
    obtain ⟨rfl, rfl, rfl⟩ := e
    exact ⟨h1, h2, atSl_int.1 h3, h4⟩
  · rintro ⟨h1, h2, h3, h4⟩
    exact ⟨a, n, c, rfl, h1, h2, atSl_int.2 h3, h4⟩

theorem cells_ints {cells : List Value} {zs : List Int} (hl : cells.length = zs.length) (h : ∀ (i : Nat) (x : Int), zs[i]? = some x → cells[i]? = some (Value.int .i64 x)) : cells = zs.map (.int .i64) := by
  apply List.ext_getElem?
  intro j
  by_cases hj : j < zs.length
  · rw [h j _ (List.getElem?_eq_getElem hj)]; simp [hj]
  · rw [List.getElem?_eq_none (by omega), List.getElem?_eq_none (by simp; omega)]

theorem owns_base {w : World} {base : Nat} {e : TypeId} {size : Nat} {v : Value} {n : Nat} {xs : List Value} (h : w.ownsRow 0 e size v n xs) (hb : ∀ b, v.ownBlock = some b → base ≤ b) : w.ownsRow base e size v n xs := by
  refine ⟨h.1, ?_⟩
  rcases h.2 with hn | ⟨g, cap, cur, rfl, _, rest⟩
  · exact .inl hn
  · exact .inr ⟨g, cap, cur, rfl, hb g rfl, rest⟩

theorem RInts.own_iff {w : World} {F : Nat → Prop} {a : Option Addr} {n c : Nat} {zs : List Int} :
    RInts.Own w F [.slice a n c] zs ↔ zs.length = n ∧ n ≤ 9223372036854775807 ∧ w.ownsRow 0 3 1 (.slice a n c) n (zs.map (.int .i64)) ∧ ∀ b, (Value.slice a n c).ownBlock = some b → F b := by
  constructor
  · rintro ⟨a', n', c', cells, G, e, h⟩
    simp only [List.cons.injEq, Value.slice.injEq, and_true] at e
    obtain ⟨rfl, rfl, rfl⟩ := e
    have hc : cells = zs.map (.int .i64) := by
      refine cells_ints (by have := h.outer.1; simp [Rep.int] at this; rw [this, h.len]) (fun i x hx => ?_)
      have hi : i < n := by rw [← h.len]; exact (List.getElem?_eq_some_iff.1 hx).1
      have e : sub cells (i * 1) 1 = [.int .i64 x] := h.row i x hi hx
      have e2 : (sub cells (i * 1) 1)[0]? = cells[i * 1 + 0]? := sub_at (by omega)
      rw [e] at e2
      simpa using e2.symm
    refine ⟨h.len, h.big, ?_, h.outerF⟩
    rw [← hc]; exact h.outer
  · rintro ⟨h1, h2, h3, h4⟩
    refine ⟨a, n, c, _, fun _ _ => False, rfl, h1, h2, h3, h4, fun i x hi hx => ?_, fun i b hi hb => hb.elim, fun i j b _ _ _ hb => hb.elim⟩
    show sub (zs.map (.int .i64)) (i * 1) 1 = [.int .i64 x]
    apply List.ext_getElem?
    intro j
    by_cases hj : j < 1
    · rw [sub_at hj]
      obtain rfl : j = 0 := by omega
      simp [hx]
    · rw [List.getElem?_eq_none (by simp [sub]; omega), List.getElem?_eq_none (by simp; omega)]

/-- What the contracts of stage 1 to 5 say of a slice of numbers, told as a thing that is owned. -/
theorem RInts.of_owns {w : World} {base : Nat} {a : Option Addr} {n c : Nat} {zs : List Int} (hz : zs.length = n) (hn : n ≤ 9223372036854775807) (h : w.ownsRow base 3 1 (.slice a n c) n (zs.map (.int .i64))) :
    RInts.Own w (From base w.heap.size) [.slice a n c] zs := RInts.own_iff.2 ⟨hz, hn, owns_mono h (Nat.zero_le _), fun b hb => h.lt b hb⟩

theorem atSl_ints {w : World} {a : Option Addr} {zss : List (List Int)} (h : AtSl RInts w a zss) : AtS w a zss := by
  rcases h with h | ⟨b, off, rfl, hc⟩
  · exact .inl h
  · refine .inr ⟨b, off, rfl, fun i hi => ?_⟩
    obtain ⟨cs, h1, h2⟩ := hc i zss[i] (List.getElem?_eq_getElem hi)
    obtain ⟨a', n', c', rfl, e1, e2, e3, _⟩ := h2
    have g0 := h1 0 _ rfl
    have ht : zss.getD i [] = zss[i] := by simp [List.getD, hi]
    rw [ht, e1]
    exact ⟨a', c', by simpa [RInts, Rep.slice] using g0, e2, atSl_int.1 e3⟩

/-- A slice of slices of numbers that a contract of stage 1 owns, as a thing that is owned. -/
theorem RPairs.of_own {w : World} {lo hi g n : Nat} {zss : List (List Int)} (h : OwnS w lo hi 54 3 g n zss) (hn : n ≤ 1048576) (hs : ∀ i, i < zss.length → (zss.getD i []).length ≤ 1048576) : RPairs.Own w (From lo hi) [.slice (some ⟨g, 0, none⟩) n n] zss := by
  obtain ⟨vs, L, h1, h2, h3, h4, h5, h6, h7, h8, h9⟩ := h
  have hm := mono_le h5
  have q0 := hm 0 n (by omega) (Nat.le_refl _)
  refine ⟨some ⟨g, 0, none⟩, n, n, vs, fun i b => L i ≤ b ∧ b < L (i + 1), rfl, h1, by omega, ⟨by simpa [Rep.slice] using h2, .inr ⟨g, n, vs.toArray, rfl, Nat.zero_le _, h8, Nat.le_refl _, by unfold maxLen; omega, by simpa [Rep.slice] using h2, by simp [Rep.slice, ← h2]⟩⟩,
    fun b hb => ?_, fun i x hi hx => ?_, fun i b hi hb => ?_, fun i j b hi hj hij hb hb' => ?_⟩
  · obtain rfl : g = b := by simpa [Value.ownBlock] using hb
    exact ⟨h3, by omega⟩
  · obtain ⟨a', c', k1, k2, k3⟩ := h9 i hi
    have ht : zss.getD i [] = x := by simp [List.getD, hx]
    have hsx := hs i (by omega)
    rw [ht] at k1 k2 k3 hsx
    have e : sub vs (i * 1) 1 = [.slice a' x.length c'] := by
      apply List.ext_getElem?
      intro j
      by_cases hj : j < 1
      · rw [sub_at hj]; obtain rfl : j = 0 := by omega
        simpa using k1
      · rw [List.getElem?_eq_none (by simp [sub]; omega), List.getElem?_eq_none (by simp; omega)]
    show RInts.Own w _ (sub vs (i * 1) 1) x
    rw [e]
    exact RInts.own_iff.2 ⟨rfl, by omega, owns_mono k2 (Nat.zero_le _), fun b hb => ⟨(k2.lt b hb).1, k3 b hb⟩⟩
  · have q1 := hm 0 i (by omega) (by omega)
    have q2 := hm (i + 1) n (by omega) (Nat.le_refl _)
    exact ⟨⟨by omega, by omega⟩, by simp [Value.ownBlock]; omega⟩
  · rcases Nat.lt_or_gt_of_ne hij with hlt | hlt
    · have := hm (i + 1) j (by omega) (by omega); omega
    · have := hm (j + 1) i (by omega) (by omega); omega

end Go.Proofs.Ythliamoeplgblaa

/- Plain: things as the laws mark them, one behind the other, whatever they are. -/
namespace Go.Proofs.Ythliamoeplgblaa
open Go.RowKit

section
variable {α : Type} (f : Int → α → α) (sz : α → Nat)
def mkL : Int → List α → List α
  | _, [] => []
  | m, x :: xs => f m x :: mkL (m + sz x) xs
def szL (xs : List α) (k : Nat) : Nat := ((xs.take k).map sz).sum
theorem mkL_length : ∀ (m : Int) (xs : List α), (mkL f sz m xs).length = xs.length
  | _, [] => rfl
  | m, x :: xs => by simp [mkL, mkL_length]
theorem szL_succ {xs : List α} {k : Nat} {x : α} (h : xs[k]? = some x) : szL sz xs (k + 1) = szL sz xs k + sz x := by
  have hk := (List.getElem?_eq_some_iff.1 h).1
  unfold szL
  rw [List.take_succ_eq_append_getElem hk, List.map_append, List.sum_append, (List.getElem?_eq_some_iff.1 h).2]
  simp
theorem mkL_at : ∀ (m : Int) (xs : List α) (k : Nat) (x : α), xs[k]? = some x → (mkL f sz m xs)[k]? = some (f (m + szL sz xs k) x)
  | m, y :: xs, 0, x, h => by
    simp at h
    subst h
    simp [mkL, szL]
  | m, y :: xs, k + 1, x, h => by
    have ih := mkL_at (m + sz y) xs k x (by simpa using h)
    have e : szL sz (y :: xs) (k + 1) = sz y + szL sz xs k := by simp [szL]
    rw [e]
    simp only [mkL, List.getElem?_cons_succ, ih]
    congr 2
    omega
/-- The first k are marked. -/
def mkTo (m : Int) (xs : List α) (k : Nat) : List α := (mkL f sz m xs).take k ++ xs.drop k
theorem mkTo_zero (m : Int) (xs : List α) : mkTo f sz m xs 0 = xs := by simp [mkTo]
theorem mkTo_all (m : Int) (xs : List α) {n : Nat} (h : xs.length = n) : mkTo f sz m xs n = mkL f sz m xs := by
  unfold mkTo
  rw [List.take_of_length_le (by rw [mkL_length]; omega), List.drop_of_length_le (by omega), List.append_nil]
theorem mkTo_next {m : Int} {xs : List α} {k : Nat} {x : α} (h : xs[k]? = some x) : (mkTo f sz m xs k)[k]? = some x := by
  have hk := (List.getElem?_eq_some_iff.1 h).1
  unfold mkTo
  have hl : ((mkL f sz m xs).take k).length = k := by rw [List.length_take, mkL_length]; omega
  rw [List.getElem?_append_right (by omega), hl, Nat.sub_self]
  simpa using h
theorem mkTo_set {m : Int} {xs : List α} {k : Nat} {x : α} (h : xs[k]? = some x) : (mkTo f sz m xs k).set k (f (m + szL sz xs k) x) = mkTo f sz m xs (k + 1) := by
  have hk := (List.getElem?_eq_some_iff.1 h).1
  have hm := mkL_at f sz m xs k x h
  have hl : ((mkL f sz m xs).take k).length = k := by rw [List.length_take, mkL_length]; omega
  unfold mkTo
  rw [List.set_append_right _ _ (by omega), hl, Nat.sub_self, List.drop_eq_getElem_cons hk, List.set_cons_zero]
  obtain ⟨hk2, hm2⟩ := List.getElem?_eq_some_iff.1 hm
  rw [List.take_succ_eq_append_getElem hk2, hm2, List.append_assoc]
  rfl
theorem mkTo_length (m : Int) (xs : List α) (k : Nat) : (mkTo f sz m xs k).length = xs.length := by
  unfold mkTo
  rw [List.length_append, List.length_take, List.length_drop, mkL_length]
  omega
end

def mkInts (m : Int) (zs : List Int) : List Int := marks m zs.length
def mkPairs (m : Int) (ps : List (List Int)) : List (List Int) := mkL (fun m zs => mkInts m zs) List.length m ps
theorem szL_pairs (ps : List (List Int)) (k : Nat) : szL List.length ps k = tot ps k := rfl
theorem marks_succ (m : Int) (n : Nat) : marks m (n + 1) = m :: marks (m + 1) n := by
  unfold marks
  rw [List.range_succ_eq_map, List.map_cons, List.map_map]
  simp only [List.cons.injEq]
  refine ⟨by simp, ?_⟩
  apply List.map_congr_left
  intro i _
  simp only [Function.comp]
  push_cast
  omega
theorem szL_mono {α : Type} (sz : α → Nat) (xs : List α) (j k : Nat) (h : j ≤ k) : szL sz xs j ≤ szL sz xs k := by
  obtain ⟨d, rfl⟩ := Nat.le.dest h
  induction d with
  | zero => exact Nat.le_refl _
  | succ d ih =>
    by_cases hk : j + d < xs.length
    · rw [show j + (d + 1) = (j + d) + 1 from rfl, szL_succ sz (List.getElem?_eq_getElem hk)]; have := ih (by omega); omega
    · have e1 : szL sz xs (j + (d + 1)) = szL sz xs (j + d) := by unfold szL; rw [List.take_of_length_le (by omega), List.take_of_length_le (by omega)]
      rw [e1]; exact ih (by omega)

end Go.Proofs.Ythliamoeplgblaa

/- The laws' copies of slices of numbers, of slices of numbers, as things that are owned. -/
namespace Go.Proofs.Ythliamoeplgblaa
open Go.RowKit

theorem toInts_rep (a : Option Addr) (n c : Nat) (zs : List Int) (w : World) (hz : zs.length = n) (hn : n ≤ 1048576) (ha : At w a zs) :
    Calls Try.prog 64 #[.slice a n c] w fun e w' => ∃ g, e = .returned (.slice (some ⟨g, 0, none⟩) n n) ∧ RInts.Own w' (From w.heap.size w'.heap.size) [.slice (some ⟨g, 0, none⟩) n n] zs ∧ Below w.heap.size w w' :=
  (toIntS_any a n c zs w hz hn ha).mono fun _ _ ⟨h1, h2, h3⟩ => ⟨_, h1, RInts.of_owns hz (by omega) h2, h3⟩
end Go.Proofs.Ythliamoeplgblaa

/- A block of cells that a function holds: what is stored, what stays. -/
namespace Go.Proofs.Ythliamoeplgblaa
open Go.RowKit

theorem blk_set {w : World} {g : Nat} {cs : Array Value} {t : TypeId} (h : w.heap[g]? = some (.cells cs t (0, 0))) (k : Nat) (v : Value) : (w.setCell ⟨g, k, none⟩ v).heap[g]? = some (.cells (cs.setIfInBounds k v) t (0, 0)) := heap_setCell_same w g k cs t v h
theorem blk_cell {w : World} {g : Nat} {cs : Array Value} {t : TypeId} (h : w.heap[g]? = some (.cells cs t (0, 0))) (k : Nat) {v : Value} (hv : cs[k]? = some v) : w.cell? ⟨g, k, none⟩ = some v := by
  rw [cell_of_row w g k _ t (0, 0) h]; exact hv
theorem blk_frozen {w : World} {g : Nat} {cs : Array Value} {t : TypeId} (h : w.heap[g]? = some (.cells cs t (0, 0))) (k : Nat) : w.frozen? ⟨g, k, none⟩ = false := frozen_of_row w g k _ t h
theorem blk_below {w w' : World} {g : Nat} {o : Obj} (h : w.heap[g]? = some o) (hb : Below w.heap.size w w') : w'.heap[g]? = some o := (hb.block g (Array.getElem?_eq_some_iff.1 h).1).trans h
theorem blk_other {w : World} {g : Nat} {o : Obj} (h : w.heap[g]? = some o) {a : Addr} (ha : g ≠ a.block) (v : Value) : (w.setCell a v).heap[g]? = some o := (Below.heap_setCell w a v g ha).trans h
theorem blk_alloc {w : World} {g : Nat} {o : Obj} (h : w.heap[g]? = some o) (o' : Obj) : (w.alloc o').heap[g]? = some o := (Below.heap_alloc w o' g (Array.getElem?_eq_some_iff.1 h).1).trans h

end Go.Proofs.Ythliamoeplgblaa

/- Tableaus as things in memory, and the laws' helpers over them: szRowS, szTableau, eqRowS, eqTableau. -/
namespace Go.Proofs.Ythliamoeplgblaa
open Go.RowKit

abbrev RRows : Rep (List (List Int)) := Rep.slice 70 RInts
abbrev Tbl := Int × List (List Int)
abbrev RTbl : Rep Tbl := Rep.pair Rep.int RRows

theorem RTbl.at_iff {w : World} {p : Int} {a : Option Addr} {n c : Nat} {x : Tbl} (h : RTbl.At w [.int .i64 p, .slice a n c] x) : x.1 = p ∧ x.2.length = n ∧ n ≤ 9223372036854775807 ∧ AtS w a x.2 ∧ (a = none → c = 0) := by
  obtain ⟨c1, c2, e, h1, a', n', c', rfl, t1, t2, t3, t4⟩ := h
  obtain rfl : c1 = [.int .i64 x.1] := h1
  simp only [List.cons_append, List.nil_append, List.cons.injEq, Value.slice.injEq, Value.int.injEq, and_true, true_and] at e
  obtain ⟨rfl, rfl, rfl, rfl⟩ := e
  exact ⟨rfl, t1, t2, atSl_ints t3, t4⟩

theorem RTbl.own_mk {w : World} {F : Nat → Prop} {p : Int} {a : Option Addr} {n c : Nat} {zss : List (List Int)} (h : RRows.Own w F [.slice a n c] zss) : RTbl.Own w F [.int .i64 p, .slice a n c] (p, zss) :=
  ⟨[_], [_], fun _ => False, F, rfl, rfl, h, fun _ h => h.elim, fun _ h => h, fun _ h => h.elim⟩
theorem RTbl.own_open {w : World} {F : Nat → Prop} {p : Int} {a : Option Addr} {n c : Nat} {x : Tbl} (h : RTbl.Own w F [.int .i64 p, .slice a n c] x) : x.1 = p ∧ RRows.Own w F [.slice a n c] x.2 := by
  obtain ⟨c1, c2, F1, F2, e, h1, h2, _, h4, _⟩ := h
  obtain rfl : c1 = [.int .i64 x.1] := h1
  simp only [List.cons_append, List.nil_append, List.cons.injEq, Value.int.injEq, true_and] at e
  obtain ⟨rfl, rfl⟩ := e
  exact ⟨rfl, RRows.mono h2 h4⟩
theorem RRows.atS {w : World} {F : Nat → Prop} {a : Option Addr} {n c : Nat} {zss : List (List Int)} (h : RRows.Own w F [.slice a n c] zss) : zss.length = n ∧ AtS w a zss := by
  obtain ⟨a', n', c', e, t1, t2, t3, _⟩ := RRows.toAt h
  simp only [List.cons.injEq, Value.slice.injEq, and_true] at e
  obtain ⟨rfl, rfl, rfl⟩ := e
  exact ⟨t1, atSl_ints t3⟩
theorem RRows.atR {w : World} {F : Nat → Prop} {a : Option Addr} {n c : Nat} {zss : List (List Int)} (h : RRows.Own w F [.slice a n c] zss) : AtSl RInts w a zss := by
  obtain ⟨a', n', c', e, t1, t2, t3, _⟩ := RRows.toAt h
  simp only [List.cons.injEq, Value.slice.injEq, and_true] at e
  obtain ⟨rfl, rfl, rfl⟩ := e
  exact t3

/-- Rows within the laws' bound. -/
def SmR (zss : List (List Int)) (n : Nat) : Prop := zss.length = n ∧ n + tot zss n ≤ 1048576
theorem SmR.n {zss : List (List Int)} {n : Nat} (h : SmR zss n) : n ≤ 1048576 := by have := h.2; omega
theorem SmR.sum {zss : List (List Int)} {n : Nat} (h : SmR zss n) : tot zss n ≤ 1048576 := by have := h.2; omega
theorem SmR.each {zss : List (List Int)} {n : Nat} (h : SmR zss n) : ∀ i, i < zss.length → (zss.getD i []).length ≤ 1048576 := fun i hi => by
  have h1 := tot_succ zss i hi
  have h2 := tot_mono zss (i + 1) n (by have := h.1; omega)
  have := h.2
  omega

set_option maxHeartbeats 1000000 in
theorem szRowS_any (a : Option Addr) (n c : Nat) (zss : List (List Int)) (l : Int) (w : World) (hz : zss.length = n) (hn : n ≤ 9223372036854775807) (h0 : 0 ≤ l) (h1 : l ≤ 1048576) (ha : AtS w a zss) :
    Calls Try.prog 27 #[.slice a n c, .int .i64 l] w fun e w' => e = .returned (.int .i64 (leftOf l (n + tot zss n : Nat))) ∧ Below w.heap.size w w' := by
  by_cases hb : l < n
  · have h' : l - (n : Int) < 0 := by omega
    go_enter Try.func27, Try.ntmps27
    go_wp2
    go_ret
    exact ⟨ret_int (leftOf_no (by omega)).symm, Below.refl _ _⟩
  have h' : ¬ l - (n : Int) < 0 := by omega
  by_cases hn0 : n = 0
  · subst hn0
    have ht : tot zss 0 = 0 := rfl
    go_enter Try.func27, Try.ntmps27
    go_wp2
    refine wp_loop_rounds 1 ?_
    rw [rounds_succ]
    go_wp2
    go_ret
    exact ⟨ret_int (by rw [ht, leftOf_yes (by omega)]; omega), Below.refl _ _⟩
  · go_enter Try.func27, Try.ntmps27
    go_wp2
    go_loopw [1, 5] (fun q i wr => ∃ (k : Nat) (r : Int), k ≤ n ∧ i = .int .i64 k ∧ q = .int .i64 r ∧ 0 ≤ r ∧ r ≤ 1048576 ∧ r + tot zss k = l - n ∧ Below w.heap.size w wr) (fun _ i _ => n - (intOf i).toNat)
    case atStart => exact ⟨0, l - n, Nat.zero_le _, rfl, rfl, by omega, by omega, by rw [tot_zero]; omega, Below.refl _ _⟩
    case round =>
      obtain ⟨k, r, hk, rfl, rfl, hr0, hr1, hr, hbw⟩ := hrel
      by_cases hlt : k < n
      · obtain ⟨b, off, rfl, hc⟩ := (ha.below hbw).some (by omega)
        obtain ⟨a', c', hcx, hm, hat⟩ := hc k (by omega)
        have hts := tot_succ zss k (by omega)
        have htm := tot_mono zss (k + 1) n (by omega)
        obtain ⟨m, hmm⟩ : ∃ m, m = (zss.getD k []).length := ⟨_, rfl⟩
        rw [← hmm] at hcx hm hts
        have HR := Hid.mk hr
        have HT := Hid.mk hts
        have HM := Hid.mk htm
        have hki : (k : Int) < (n : Int) := by omega
        clear hmm hat hc hr hts htm ha
        by_cases hfit : r < m
        · go_wp2_with fail
          refine (szRow_any a' m c' r wr hm hr0 hr1).mono ?_
          rintro e w' ⟨rfl, hb'⟩
          rw [if_pos hfit]
          go_wp2
          go_ret
          exact ⟨ret_int (leftOf_no (by have := HR.out; have := HT.out; have := HM.out; omega)).symm, hbw.trans (hb'.mono hbw.size)⟩
        · have hd : ¬ r - (m : Int) < 0 := by omega
          go_wp2_with fail
          refine (szRow_any a' m c' r wr hm hr0 hr1).mono ?_
          rintro e w' ⟨rfl, hb'⟩
          rw [if_neg (by omega)]
          go_wp2
          go_roundw
          case rel => exact ⟨k + 1, r - m, by omega, by go_num, rfl, by omega, by omega, by have := HR.out; have := HT.out; omega, hbw.trans (hb'.mono hbw.size)⟩
          case measure => simp [intOf]; omega
      · obtain rfl : k = n := by omega
        have HR := Hid.mk hr
        clear hr
        go_wp2
        go_ret
        exact ⟨ret_int (by have := HR.out; rw [leftOf_yes (by omega)]; omega), hbw⟩

theorem szTableau_any (p : Int) (a : Option Addr) (n c : Nat) (zss : List (List Int)) (l : Int) (w : World) (hz : zss.length = n) (hn : n ≤ 9223372036854775807) (h0 : 0 ≤ l) (h1 : l ≤ 1048576) (ha : AtS w a zss) :
    Calls Try.prog 7 #[.agg #[.int .i64 p, .slice a n c], .int .i64 l] w fun e w' => e = .returned (.int .i64 (leftOf l (n + tot zss n : Nat))) ∧ Below w.heap.size w w' := by
  have B0 : Below w.heap.size w (w.alloc (.cells #[.int .i64 p, .slice a n c] 24)) := (Below.refl _ _).alloc (Nat.le_refl _) _
  have HA := Hid.mk (ha.below B0)
  clear ha
  obtain ⟨C, hC⟩ : ∃ C, n + tot zss n = C := ⟨_, rfl⟩
  have HC := Hid.mk hC
  rw [hC]
  clear hC
  by_cases h : l < C
  · go_enter Try.func7, Try.ntmps7
    go_wp2_with fail
    refine (szRowS_any _ _ _ zss _ _ hz hn h0 h1 HA.out).mono ?_
    rintro e w' ⟨rfl, hb⟩
    rw [HC.out, leftOf_no h]
    go_wp2
    go_ret
    exact ⟨ret_int (leftOf_no h).symm, B0.trans (hb.mono B0.size)⟩
  · have h' : ¬ l - (C : Int) < 0 := by omega
    go_enter Try.func7, Try.ntmps7
    go_wp2_with fail
    refine (szRowS_any _ _ _ zss _ _ hz hn h0 h1 HA.out).mono ?_
    rintro e w' ⟨rfl, hb⟩
    rw [HC.out, leftOf_yes (by omega)]
    go_wp2
    go_ret
    exact ⟨ret_int (leftOf_yes (by omega)).symm, B0.trans (hb.mono B0.size)⟩

set_option maxHeartbeats 2000000 in
theorem eqRowS_same (a a' : Option Addr) (n c c' : Nat) (zss : List (List Int)) (w : World) (hs : SmR zss n) (ha : AtS w a zss) (ha' : AtS w a' zss) :
    Calls Try.prog 37 #[.slice a n c, .slice a' n c'] w fun e w' => e = .returned (.bool true) ∧ Below w.heap.size w w' := by
  have hn := hs.n
  have hz := hs.1
  by_cases h0 : n = 0
  · subst h0
    go_enter Try.func37, Try.ntmps37
    go_wp2
    refine wp_loop_rounds 1 ?_
    rw [rounds_succ]
    go_wp2
    go_ret
    exact ⟨rfl, Below.refl _ _⟩
  · go_enter Try.func37, Try.ntmps37
    go_wp2
    go_loopw [5] (fun i wr => ∃ (k : Nat), k ≤ n ∧ i = .int .i64 k ∧ Below w.heap.size w wr) (fun i _ => n - (intOf i).toNat)
    case atStart => exact ⟨0, Nat.zero_le _, rfl, Below.refl _ _⟩
    case round =>
      obtain ⟨k, hk, rfl, hbw⟩ := hrel
      by_cases hlt : k < n
      · obtain ⟨b, off, rfl, hc⟩ := (ha.below hbw).some (by omega)
        obtain ⟨b', off', rfl, hc'⟩ := (ha'.below hbw).some (by omega)
        obtain ⟨q, d, hcx, _, hat⟩ := hc k (by omega)
        obtain ⟨q', d', hcy, _, hat'⟩ := hc' k (by omega)
        have hm := hs.each k (by omega)
        generalize zss.getD k [] = ys at *
        obtain ⟨m, hmm⟩ : ∃ m, ys.length = m := ⟨_, rfl⟩
        rw [hmm] at hcx hcy hm
        have hki : (k : Int) < (n : Int) := by omega
        have HE : Hid (∀ w' : World, Below wr.heap.size wr w' → Calls Try.prog 68 #[.agg #[.slice q m d], .agg #[.slice q' m d']] w' fun e w'' => e = .returned (.bool true) ∧ Below w'.heap.size w' w'') :=
          fun w' hw' => (eqRow_any q q' m m d d' ys ys w' hmm hmm hm hm (At.below hat hw') (At.below hat' hw')).mono fun _ _ ⟨h1, h2⟩ => ⟨by rw [h1, decide_eq_true rfl], h2⟩
        clear hc hc' hmm ha ha' hs hz
        go_wp2_with fail
        go_region_held3 (fun w' => w'.cell? ⟨b, off + k, none⟩ = some (.slice q m d) ∧ w'.cell? ⟨b', off' + k, none⟩ = some (.slice q' m d')) (refine ⟨?_, ?_⟩ <;> assumption)
          (first | (go_at_call 68; refine (HE.out wr.drew (Below.refl _ _).drew).mono ?_; rintro e w2 ⟨rfl, hb2⟩; have e0 := cell_later hb2 hcx; have e1 := cell_later hb2 hcy) | fail)
        go_wp2
        go_roundw
        case rel => exact ⟨k + 1, by omega, by go_num, hbw.drew.trans (hb2.mono hbw.size)⟩
        case measure => simp [intOf]; omega
      · go_wp2
        go_ret
        exact ⟨rfl, hbw⟩

theorem eqTableau_same (p : Int) (a a' : Option Addr) (n c c' : Nat) (zss : List (List Int)) (w : World) (hs : SmR zss n) (ha : AtS w a zss) (ha' : AtS w a' zss) :
    Calls Try.prog 13 #[.agg #[.int .i64 p, .slice a n c], .agg #[.int .i64 p, .slice a' n c']] w fun e w' => e = .returned (.bool true) ∧ Below w.heap.size w w' := by
  obtain ⟨W, hW⟩ : ∃ W, W = (w.alloc (.cells #[.int .i64 p, .slice a n c] 30)).alloc (.cells #[.int .i64 p, .slice a' n c'] 30) := ⟨_, rfl⟩
  have B : Below w.heap.size w W := by rw [hW]; exact ((Below.refl _ _).alloc (Nat.le_refl _) _).alloc (by simp) _
  have HA := Hid.mk (ha.below B)
  have HA' := Hid.mk (ha'.below B)
  clear ha ha'
  go_enter Try.func13, Try.ntmps13
  go_wp2_with fail
  rw [← hW]
  clear hW
  refine (eqRowS_same _ _ _ _ _ zss _ hs HA.out HA'.out).mono ?_
  rintro e w1 ⟨rfl, hb⟩
  go_wp2
  go_ret
  exact ⟨rfl, B.trans (hb.mono B.size)⟩

end Go.Proofs.Ythliamoeplgblaa

/- One more thing at a slice's end. -/
namespace Go.Proofs.Ythliamoeplgblaa
open Go.RowKit

section
variable {α : Type} {A : Rep α} {w w2 w4 : World} {F H F' : Nat → Prop} {e : TypeId} {a a' : Option Addr} {n c c' : Nat} {xs : List α} {cells vs : List Value} {G : Nat → Nat → Prop} {x : α}

theorem sub_append_left {cells vs : List Value} {o k : Nat} (h : o + k ≤ cells.length) : sub (cells ++ vs) o k = sub cells o k := by
  unfold sub
  rw [List.drop_append_of_le_length (by omega), List.take_append_of_le_length (by simp; omega)]
theorem sub_append_right {cells vs : List Value} {k : Nat} (h : vs.length = k) : sub (cells ++ vs) cells.length k = vs := by
  unfold sub
  rw [List.drop_left, ← h, List.take_length]

/-- Behind 'append(l, x)': the slice lies in its old block, or in a new one. -/
theorem Laid.push (h : Laid A w F e a n c xs cells G n) (hF : ∀ b, F b → b < w.heap.size) (hb : Below w.heap.size w w2) (ho : A.Own w2 H vs x) (hH : ∀ b, H b → w.heap.size ≤ b ∧ b < w2.heap.size)
    (hg : ∀ b, b < w2.heap.size → (Value.slice a n c).ownBlock ≠ some b → w4.heap[b]? = w2.heap[b]?) (hown : w4.ownsRow 0 e A.k (.slice a' (n + 1) c') (n + 1) (cells ++ vs))
    (hat : (Value.slice a' (n + 1) c').ownBlock = (Value.slice a n c).ownBlock ∨ ∀ b, (Value.slice a' (n + 1) c').ownBlock = some b → w2.heap.size ≤ b) (hbig : n + 1 ≤ 9223372036854775807)
    (hF1 : ∀ b, F b → F' b) (hF2 : ∀ b, H b → F' b) (hF3 : ∀ b, (Value.slice a' (n + 1) c').ownBlock = some b → F' b) :
    Laid A w4 F' e a' (n + 1) c' (xs ++ [x]) (cells ++ vs) (fun i => if i = n then H else G i) (n + 1) := by
  have hl := A.ownLen ho
  have hcl : cells.length = n * A.k := h.outer.1
  have hz := hb.size
  have hB : ∀ i b, i < n → G i b → b < w.heap.size ∧ (Value.slice a n c).ownBlock ≠ some b := fun i b hi hg' => ⟨hF b (h.rowF i b hi hg').1, (h.rowF i b hi hg').2⟩
  have hO : ∀ b, (Value.slice a n c).ownBlock = some b → b < w.heap.size := fun b hb' => hF b (h.outerF b hb')
  refine ⟨by simp [h.len], hbig, hown, hF3, fun i y hi hy => ?_, fun i b hi hb' => ?_, fun i j b hi hj hij hb' => ?_⟩
  · by_cases ei : i = n
    · subst ei
      simp only [if_true]
      obtain rfl : x = y := by
        rw [List.getElem?_append_right (by rw [h.len]; exact Nat.le_refl _)] at hy
        simpa [h.len] using hy
      have := sub_append_right (cells := cells) hl
      rw [hcl] at this
      rw [this]
      exact A.frame ho (fun b hb' _ => hg b (hH b hb').2 (fun e' => by have := hO b e'; have := (hH b hb').1; omega))
    · simp only [if_neg ei]
      have hi' : i < n := by omega
      rw [List.getElem?_append_left (by rw [h.len]; exact hi')] at hy
      rw [sub_append_left (by rw [hcl]; exact at_mul hi')]
      exact A.frame (A.ownBelow (h.row i y hi' hy) hb) (fun b hb' _ => hg b (by have := (hB i b hi' hb').1; omega) (hB i b hi' hb').2)
  · by_cases ei : i = n
    · subst ei
      simp only [if_true] at hb'
      refine ⟨hF2 b hb', fun e' => ?_⟩
      have h1 := hH b hb'
      rcases hat with h2 | h2
      · rw [h2] at e'
        have := hO b e'
        omega
      · have := h2 b e'
        omega
    · simp only [if_neg ei] at hb'
      have h1 := hB i b (by omega) hb'
      refine ⟨hF1 b (h.rowF i b (by omega) hb').1, fun e' => ?_⟩
      rcases hat with h2 | h2
      · rw [h2] at e'; exact h1.2 e'
      · have := h2 b e'
        omega
  · by_cases ei : i = n
    · subst ei
      simp only [if_true] at hb'
      simp only [if_neg (Ne.symm hij)]
      intro e'
      have := (hB j b (by omega) e').1
      have := (hH b hb').1
      omega
    · simp only [if_neg ei] at hb'
      by_cases ej : j = n
      · simp only [if_pos ej]
        intro e'
        have := (hB i b (by omega) hb').1
        have := (hH b e').1
        omega
      · simp only [if_neg ej]
        exact h.apart i j b (by omega) (by omega) hij hb'

/-- A slice of nothing. -/
theorem Laid.none (A : Rep α) (w : World) (F : Nat → Prop) (e : TypeId) : Laid A w F e none 0 0 [] [] (fun _ _ => False) 0 :=
  ⟨rfl, by omega, World.ownsRow_nil _ _ _ _, fun b hb => (by cases hb), fun i x h => by omega, fun i b h => by omega, fun i j b h => by omega⟩
end

end Go.Proofs.Ythliamoeplgblaa

/- Slices of numbers, marked, as things that are owned. -/
namespace Go.Proofs.Ythliamoeplgblaa
open Go.RowKit

theorem markInts_rep (F : Nat → Prop) (a : Option Addr) (n c : Nat) (zs : List Int) (m : Int) (w : World) (hn : n ≤ 1048576) (h0 : 0 ≤ m) (h1 : m ≤ 268435456) (ho : RInts.Own w F [.slice a n c] zs) :
    Calls Try.prog 40 #[.slice a n c, .int .i64 m] w fun e w' => e = .returned (.int .i64 (m + n)) ∧ RInts.Own w' F [.slice a n c] (mkInts m zs) ∧ Off F w w' := by
  obtain ⟨h2, h3, h4, h5⟩ := RInts.own_iff.1 ho
  refine (markIntS_any 0 a n c _ m w hn h0 (by omega) h4).mono fun e w' ⟨e1, e2, e3⟩ => ⟨e1, RInts.own_iff.2 ⟨by unfold mkInts; rw [marks_length, h2], h3, by unfold mkInts; rw [h2]; exact e2, h5⟩, Off.grown e3 h5⟩
end Go.Proofs.Ythliamoeplgblaa

/- Lists of numbers that are answered, held as the laws marked them. -/
namespace Go.Proofs.Ythliamoeplgblaa
open Go.RowKit

def IntsRet (e : Ending) (w' : World) (lo : Nat) (ok : Bool) (zs : List Int) : Prop := ∃ r m d, e = .returned (.tuple #[.slice r m d, .bool ok]) ∧ zs.length = m ∧ w'.ownsRow lo 3 1 (.slice r m d) m (zs.map (.int .i64))
theorem ints_at {w : World} {F : Nat → Prop} {a : Option Addr} {n c : Nat} {zs : List Int} (h : RInts.Own w F [.slice a n c] zs) : At w a zs := (RInts.at_iff.1 (RInts.toAt h)).2.2.1
theorem heldInts_rep (a : Option Addr) (n c : Nat) (zs : List Int) (m : Int) (w : World) (hz : zs.length = n) (hn : n ≤ 1048576) (h0 : 0 ≤ m) (h1 : m ≤ 268435456) (ha : At w a (mkInts m zs)) :
    Calls Try.prog 70 #[.slice a n c, .int .i64 m] w fun e w' => e = .returned (.int .i64 (m + n)) ∧ Below w.heap.size w w' := by
  unfold mkInts at ha
  rw [hz] at ha
  exact (heldIntS_any a n c m w hn h0 (by omega) ha).mono fun _ _ ⟨h1, h2⟩ => ⟨h1, by first | exact h2 | (rw [h2]; exact Below.refl _ _)⟩

theorem Off.toBelow {lo hi B : Nat} {a b : World} (h : Off (From lo hi) a b) (hlo : B ≤ lo) (hB : B ≤ a.heap.size) : Below B a b := ⟨h.os, h.tape, h.output, h.size, fun k hk => h.block k (by omega) (fun e => by have := e.1; omega)⟩

end Go.Proofs.Ythliamoeplgblaa
