/- Several texts of one proof, in build order: RepI, ViewG, TestG, GoodTI, GoodTS, TestA, IterP, L2Tell. -/
import Derived.Test.YthdcjelahoiepabM1
import Derived.Test.YthdcjelahoiepabM6
import Derived.Test.YthdcjelahoiepabM3
import Derived.Test.YthdcjelahoiepabM5
import Derived.Test.YthdcjelahoiepabM0

/- Slices of numbers, of tests and of slices of numbers as things in memory. -/
namespace Go.Proofs.Ythdcjelahoiepab
open Go.RowKit

theorem atSl_int {w : World} {a : Option Addr} {zs : List Int} : AtSl Rep.int w a zs ↔ At w a zs := by
  constructor
  · rintro (h | ⟨b, off, rfl, hc⟩)
    · exact .inl h
    · refine .inr ⟨b, off, rfl, fun i hi => ?_⟩
      obtain ⟨cs, h1, h2⟩ := hc i zs[i] (List.getElem?_eq_getElem hi)
      obtain rfl : cs = [.int .i64 zs[i]] := h2
      have := h1 0 _ rfl
      simpa [Rep.int, List.getD, hi] using this
  · rintro (h | ⟨b, off, rfl, hc⟩)
    · exact .inl h
    · refine .inr ⟨b, off, rfl, fun i x hx => ⟨[.int .i64 x], fun j v hv => ?_, rfl⟩⟩
      have hi := (List.getElem?_eq_some_iff.1 hx).1
      have := hc i hi
      match j, hv with
      | 0, hv =>
        obtain rfl := Option.some.inj hv
        simpa [Rep.int, List.getD, hx] using this

abbrev RInts : Rep (List Int) := Rep.slice 3 Rep.int
abbrev RTest : Rep Tst := Rep.pair Rep.int (Rep.pair Rep.int Rep.int)
abbrev RTests : Rep (List Tst) := Rep.slice 102 RTest
abbrev RPairs : Rep (List (List Int)) := Rep.slice 22 RInts

theorem RInts.at_iff {w : World} {a : Option Addr} {n c : Nat} {zs : List Int} : RInts.At w [.slice a n c] zs ↔ zs.length = n ∧ n ≤ 9223372036854775807 ∧ At w a zs ∧ (a = none → c = 0) := by
  constructor
  · rintro ⟨a', n', c', e, h1, h2, h3, h4⟩
    simp only [List.cons.injEq, Value.slice.injEq, and_true] at e
    obtain ⟨rfl, rfl, rfl⟩ := e
    exact ⟨h1, h2, atSl_int.1 h3, h4⟩
  · rintro ⟨h1, h2, h3, h4⟩
    exact ⟨a, n, c, rfl, h1, h2, atSl_int.2 h3, h4⟩

theorem cells_ints {cells : List Value} {zs : List Int} (hl : cells.length = zs.length) (h : ∀ (i : Nat) (x : Int), zs[i]? = some x → cells[i]? = some (Value.int .i64 x)) : cells = zs.map (.int .i64) := by
  apply List.ext_getElem?
  intro j
  by_cases hj : j < zs.length
  · rw [h j _ (List.getElem?_eq_getElem hj)]; simp [hj]
  · rw [List.getElem?_eq_none (by omega), List.getElem?_eq_none (by simp; omega)]

theorem owns_base {w : World} {base : Nat} {e : TypeId} {size : Nat} {v : Value} {n : Nat} {xs : List Value} (h : w.ownsRow 0 e size v n xs) (hb : ∀ b, v.ownBlock = some b → base ≤ b) : w.ownsRow base e size v n xs := by
  refine ⟨h.1, ?_⟩
  rcases h.2 with hn | ⟨g, cap, cur, rfl, _, rest⟩
  · exact .inl hn
  · exact .inr ⟨g, cap, cur, rfl, hb g rfl, rest⟩

theorem RInts.own_iff {w : World} {F : Nat → Prop} {a : Option Addr} {n c : Nat} {zs : List Int} :
    RInts.Own w F [.slice a n c] zs ↔ zs.length = n ∧ n ≤ 9223372036854775807 ∧ w.ownsRow 0 3 1 (.slice a n c) n (zs.map (.int .i64)) ∧ ∀ b, (Value.slice a n c).ownBlock = some b → F b := by
  constructor
  · rintro ⟨a', n', c', cells, G, e, h⟩
    simp only [List.cons.injEq, Value.slice.injEq, and_true] at e
    obtain ⟨rfl, rfl, rfl⟩ := e
    have hc : cells = zs.map (.int .i64) := by
      refine cells_ints (by have := h.outer.1; simp [Rep.int] at this; rw [this, h.len]) (fun i x hx => ?_)
      have hi : i < n := by rw [← h.len]; exact (List.getElem?_eq_some_iff.1 hx).1
      have e : sub cells (i * 1) 1 = [.int .i64 x] := h.row i x hi hx
      have e2 : (sub cells (i * 1) 1)[0]? = cells[i * 1 + 0]? := sub_at (by omega)
      rw [e] at e2
      simpa using e2.symm
    refine ⟨h.len, h.big, ?_, h.outerF⟩
    rw [← hc]; exact h.outer
  · rintro ⟨h1, h2, h3, h4⟩
    refine ⟨a, n, c, _, fun _ _ => False, rfl, h1, h2, h3, h4, fun i x hi hx => ?_, fun i b hi hb => hb.elim, fun i j b _ _ _ hb => hb.elim⟩
    show sub (zs.map (.int .i64)) (i * 1) 1 = [.int .i64 x]
    apply List.ext_getElem?
    intro j
    by_cases hj : j < 1
    · rw [sub_at hj]
      obtain rfl : j = 0 := by omega
      simp [hx]
    · rw [List.getElem?_eq_none (by simp [sub]; omega), List.getElem?_eq_none (by simp; omega)]

/-- What the contracts of stage 1 to 5 say of a slice of numbers, told as a thing that is owned. -/
theorem RInts.of_owns {w : World} {base : Nat} {a : Option Addr} {n c : Nat} {zs : List Int} (hz : zs.length = n) (hn : n ≤ 9223372036854775807) (h : w.ownsRow base 3 1 (.slice a n c) n (zs.map (.int .i64))) :
    RInts.Own w (From base w.heap.size) [.slice a n c] zs := RInts.own_iff.2 ⟨hz, hn, owns_mono h (Nat.zero_le _), fun b hb => h.lt b hb⟩

theorem atSl_test {w : World} {a : Option Addr} {es : List Tst} : AtSl RTest w a es ↔ AtE w a es := by
  constructor
  · rintro (h | ⟨b, off, rfl, hc⟩)
    · subst h; exact .inl rfl
    · refine .inr ⟨b, off, rfl, fun j hj => ?_⟩
      rw [flatE_len] at hj
      have hk : j / 3 < es.length := by omega
      obtain ⟨cs, h1, h2⟩ := hc (j / 3) es[j / 3] (List.getElem?_eq_getElem hk)
      obtain ⟨c1, c2, rfl, e1, c3, c4, rfl, e3, e4⟩ := h2
      obtain rfl : c1 = _ := e1
      obtain rfl : c3 = _ := e3
      obtain rfl : c4 = _ := e4
      have hf := flatE_at es (j / 3) hk
      have ht : tat es (j / 3) = es[j / 3] := by simp [tat, List.getD, hk]
      rw [ht] at hf
      have g0 := h1 0 _ rfl
      have g1 := h1 1 _ rfl
      have g2 := h1 2 _ rfl
      simp only [Rep.pair, Rep.int] at g0 g1 g2
      have hmod : j % 3 = 0 ∨ j % 3 = 1 ∨ j % 3 = 2 := by omega
      rcases hmod with hm | hm | hm
      · have e : j = j / 3 * 3 := by omega
        rw [show off + j = off + j / 3 * (1 + (1 + 1)) + 0 by omega, g0, ← hf.1, ← e]
      · have e : j = j / 3 * 3 + 1 := by omega
        rw [show off + j = off + j / 3 * (1 + (1 + 1)) + 1 by omega, g1, ← hf.2.1, ← e]
      · have e : j = j / 3 * 3 + 2 := by omega
        rw [show off + j = off + j / 3 * (1 + (1 + 1)) + 2 by omega, g2, ← hf.2.2, ← e]
  · intro h
    by_cases h0 : es.length = 0
    · exact .inl (List.eq_nil_of_length_eq_zero h0)
    · obtain ⟨b, off, rfl, _, hc⟩ := h.some (by omega)
      refine .inr ⟨b, off, rfl, fun i x hx => ?_⟩
      have hi := (List.getElem?_eq_some_iff.1 hx).1
      obtain ⟨g0, g1, g2⟩ := hc i hi
      have ht : tat es i = x := by simp [tat, List.getD, hx]
      rw [ht] at g0 g1 g2
      refine ⟨[.int .i64 x.1, .int .i64 x.2.1, .int .i64 x.2.2], fun j v hv => ?_, [.int .i64 x.1], _, rfl, rfl, [.int .i64 x.2.1], _, rfl, rfl, rfl⟩
      simp only [Rep.pair, Rep.int]
      match j, hv with
      | 0, hv => obtain rfl := Option.some.inj hv; simpa using g0
      | 1, hv => obtain rfl := Option.some.inj hv; simpa using g1
      | 2, hv => obtain rfl := Option.some.inj hv; simpa using g2

theorem RTests.at_iff {w : World} {a : Option Addr} {n c : Nat} {es : List Tst} : RTests.At w [.slice a n c] es ↔ es.length = n ∧ n ≤ 9223372036854775807 ∧ AtE w a es ∧ (a = none → c = 0) := by
  constructor
  · rintro ⟨a', n', c', e, h1, h2, h3, h4⟩
    simp only [List.cons.injEq, Value.slice.injEq, and_true] at e
    obtain ⟨rfl, rfl, rfl⟩ := e
    exact ⟨h1, h2, atSl_test.1 h3, h4⟩
  · rintro ⟨h1, h2, h3, h4⟩
    exact ⟨a, n, c, rfl, h1, h2, atSl_test.2 h3, h4⟩

theorem sub_three {zs : List Value} {i : Nat} {x y z : Value} (h0 : zs[i * 3]? = some x) (h1 : zs[i * 3 + 1]? = some y) (h2 : zs[i * 3 + 2]? = some z) : sub zs (i * 3) 3 = [x, y, z] := by
  apply List.ext_getElem?
  intro j
  by_cases hj : j < 3
  · rw [sub_at hj]
    match j, hj with
    | 0, _ => simpa using h0
    | 1, _ => simpa using h1
    | 2, _ => simpa using h2
  · rw [List.getElem?_eq_none (by simp [sub]; omega), List.getElem?_eq_none (by simp; omega)]

theorem RTests.own_iff {w : World} {F : Nat → Prop} {a : Option Addr} {n c : Nat} {es : List Tst} :
    RTests.Own w F [.slice a n c] es ↔ es.length = n ∧ n ≤ 9223372036854775807 ∧ w.ownsRow 0 102 3 (.slice a n c) n ((flatE es).map (.int .i64)) ∧ ∀ b, (Value.slice a n c).ownBlock = some b → F b := by
  constructor
  · rintro ⟨a', n', c', cells, G, e, h⟩
    simp only [List.cons.injEq, Value.slice.injEq, and_true] at e
    obtain ⟨rfl, rfl, rfl⟩ := e
    have hcl : cells.length = n * 3 := h.outer.1
    have hc : cells = (flatE es).map (.int .i64) := by
      refine cells_ints (by rw [flatE_len, hcl, h.len]) (fun j x hx => ?_)
      have hj : j < es.length * 3 := by rw [← flatE_len]; exact (List.getElem?_eq_some_iff.1 hx).1
      have hk : j / 3 < es.length := by omega
      obtain ⟨c1, c2, _, _, e1, e2, ⟨c3, c4, _, _, e3, e4, e5, _⟩, _⟩ := h.row (j / 3) es[j / 3] (by rw [← h.len]; exact hk) (List.getElem?_eq_getElem hk)
      obtain rfl : c1 = _ := e2
      obtain rfl : c3 = _ := e4
      obtain rfl : c4 = _ := e5
      rw [e3] at e1
      have hf := flatE_at es (j / 3) hk
      have ht : tat es (j / 3) = es[j / 3] := by simp [tat, List.getD, hk]
      rw [ht] at hf
      have hx' : (flatE es).getD j 0 = x := by simp [List.getD, hx]
      have hmod : j % 3 = 0 ∨ j % 3 = 1 ∨ j % 3 = 2 := by omega
      rcases hmod with hm | hm | hm
      · have e2 : (sub cells (j / 3 * 3) 3)[0]? = cells[j / 3 * 3 + 0]? := sub_at (by omega)
        have e6 : sub cells (j / 3 * 3) 3 = _ := e1
        rw [e6, show j / 3 * 3 + 0 = j by omega] at e2
        rw [show j / 3 * 3 = j by omega, hx'] at hf
        rw [← e2, hf.1]; rfl
      · have e2 : (sub cells (j / 3 * 3) 3)[1]? = cells[j / 3 * 3 + 1]? := sub_at (by omega)
        have e6 : sub cells (j / 3 * 3) 3 = _ := e1
        rw [e6, show j / 3 * 3 + 1 = j by omega] at e2
        rw [show j / 3 * 3 + 1 = j by omega, hx'] at hf
        rw [← e2, hf.2.1]; rfl
      · have e2 : (sub cells (j / 3 * 3) 3)[2]? = cells[j / 3 * 3 + 2]? := sub_at (by omega)
        have e6 : sub cells (j / 3 * 3) 3 = _ := e1
        rw [e6, show j / 3 * 3 + 2 = j by omega] at e2
        rw [show j / 3 * 3 + 2 = j by omega, hx'] at hf
        rw [← e2, hf.2.2]; rfl
    refine ⟨h.len, h.big, ?_, h.outerF⟩
    rw [← hc]; exact h.outer
  · rintro ⟨h1, h2, h3, h4⟩
    refine ⟨a, n, c, _, fun _ _ => False, rfl, h1, h2, h3, h4, fun i x hi hx => ?_, fun i b hi hb => hb.elim, fun i j b _ _ _ hb => hb.elim⟩
    have hi' := (List.getElem?_eq_some_iff.1 hx).1
    have hf := flatE_at es i hi'
    have ht : tat es i = x := by simp [tat, List.getD, hx]
    rw [ht] at hf
    have hl := flatE_len es
    have look : ∀ j, j < (flatE es).length → ((flatE es).map (Value.int .i64))[j]? = some (.int .i64 ((flatE es).getD j 0)) := fun j hj => by simp [List.getD, hj]
    refine ⟨[.int .i64 x.1], [.int .i64 x.2.1, .int .i64 x.2.2], fun _ => False, fun _ => False, ?_, rfl, ⟨[.int .i64 x.2.1], _, fun _ => False, fun _ => False, rfl, rfl, rfl, fun b hb => hb, fun b hb => hb, fun b hb => hb.elim⟩, fun b hb => hb, fun b hb => hb, fun b hb => hb.elim⟩
    refine sub_three ?_ ?_ ?_
    · rw [look _ (by omega), hf.1]
    · rw [look _ (by omega), hf.2.1]
    · rw [look _ (by omega), hf.2.2]

theorem atSl_ints {w : World} {a : Option Addr} {zss : List (List Int)} (h : AtSl RInts w a zss) : AtS w a zss := by
  rcases h with h | ⟨b, off, rfl, hc⟩
  · exact .inl h
  · refine .inr ⟨b, off, rfl, fun i hi => ?_⟩
    obtain ⟨cs, h1, h2⟩ := hc i zss[i] (List.getElem?_eq_getElem hi)
    obtain ⟨a', n', c', rfl, e1, e2, e3, _⟩ := h2
    have g0 := h1 0 _ rfl
    have ht : zss.getD i [] = zss[i] := by simp [List.getD, hi]
    rw [ht, e1]
    exact ⟨a', c', by simpa [RInts, Rep.slice] using g0, e2, atSl_int.1 e3⟩

/-- A slice of slices of numbers that a contract of stage 1 owns, as a thing that is owned. -/
theorem RPairs.of_own {w : World} {lo hi g n : Nat} {zss : List (List Int)} (h : OwnS w lo hi 22 3 g n zss) (hn : n ≤ 1048576) (hs : ∀ i, i < zss.length → (zss.getD i []).length ≤ 1048576) : RPairs.Own w (From lo hi) [.slice (some ⟨g, 0, none⟩) n n] zss := by
  obtain ⟨vs, L, h1, h2, h3, h4, h5, h6, h7, h8, h9⟩ := h
  have hm := mono_le h5
  have q0 := hm 0 n (by omega) (Nat.le_refl _)
  refine ⟨some ⟨g, 0, none⟩, n, n, vs, fun i b => L i ≤ b ∧ b < L (i + 1), rfl, h1, by omega, ⟨by simpa [Rep.slice] using h2, .inr ⟨g, n, vs.toArray, rfl, Nat.zero_le _, h8, Nat.le_refl _, by unfold maxLen; omega, by simpa [Rep.slice] using h2, by simp [Rep.slice, ← h2]⟩⟩,
    fun b hb => ?_, fun i x hi hx => ?_, fun i b hi hb => ?_, fun i j b hi hj hij hb hb' => ?_⟩
  · obtain rfl : g = b := by simpa [Value.ownBlock] using hb
    exact ⟨h3, by omega⟩
  · obtain ⟨a', c', k1, k2, k3⟩ := h9 i hi
    have ht : zss.getD i [] = x := by simp [List.getD, hx]
    have hsx := hs i (by omega)
    rw [ht] at k1 k2 k3 hsx
    have e : sub vs (i * 1) 1 = [.slice a' x.length c'] := by
      apply List.ext_getElem?
      intro j
      by_cases hj : j < 1
      · rw [sub_at hj]; obtain rfl : j = 0 := by omega
        simpa using k1
      · rw [List.getElem?_eq_none (by simp [sub]; omega), List.getElem?_eq_none (by simp; omega)]
    show RInts.Own w _ (sub vs (i * 1) 1) x
    rw [e]
    exact RInts.own_iff.2 ⟨rfl, by omega, owns_mono k2 (Nat.zero_le _), fun b hb => ⟨(k2.lt b hb).1, k3 b hb⟩⟩
  · have q1 := hm 0 i (by omega) (by omega)
    have q2 := hm (i + 1) n (by omega) (Nat.le_refl _)
    exact ⟨⟨by omega, by omega⟩, by simp [Value.ownBlock]; omega⟩
  · rcases Nat.lt_or_gt_of_ne hij with hlt | hlt
    · have := hm (i + 1) j (by omega) (by omega); omega
    · have := hm (j + 1) i (by omega) (by omega); omega

end Go.Proofs.Ythdcjelahoiepab

/- Parts of views, and views, as things in memory. -/
namespace Go.Proofs.Ythdcjelahoiepab
open Go.RowKit

/-- A part: its kind, A, B, tests, columns, pairs. -/
abbrev PartD := Int × Int × Int × List Tst × List Int × List (List Int)
abbrev PartD.K (x : PartD) : Int := x.1
abbrev PartD.A (x : PartD) : Int := x.2.1
abbrev PartD.B (x : PartD) : Int := x.2.2.1
abbrev PartD.ts (x : PartD) : List Tst := x.2.2.2.1
abbrev PartD.cs (x : PartD) : List Int := x.2.2.2.2.1
abbrev PartD.ps (x : PartD) : List (List Int) := x.2.2.2.2.2
abbrev RPart : Rep PartD := Rep.pair Rep.int (Rep.pair Rep.int (Rep.pair Rep.int (Rep.pair RTests (Rep.pair RInts RPairs))))
abbrev RParts : Rep (List PartD) := Rep.slice 45 RPart
abbrev ViewD := List Int × List PartD
abbrev RView : Rep ViewD := Rep.pair RInts RParts
theorem RPart_k : RPart.k = 6 := rfl

/-- The cells of a part. -/
abbrev cellsP (k a b : Int) (ta : Option Addr) (tn tc : Nat) (ca : Option Addr) (cn cc : Nat) (pa : Option Addr) (pn pc : Nat) : List Value :=
  [.int .i64 k, .int .i64 a, .int .i64 b, .slice ta tn tc, .slice ca cn cc, .slice pa pn pc]

theorem RPart.at_open4 {w : World} {cs : List Value} {x : PartD} (h : RPart.At w cs x) : ∃ ta tn tc ca cn cc pa pn pc, cs = cellsP x.K x.A x.B ta tn tc ca cn cc pa pn pc ∧
    (x.ts.length = tn ∧ tn ≤ 9223372036854775807 ∧ AtE w ta x.ts ∧ (ta = none → tc = 0)) ∧ (x.cs.length = cn ∧ cn ≤ 9223372036854775807 ∧ At w ca x.cs ∧ (ca = none → cc = 0)) ∧ (x.ps.length = pn ∧ pn ≤ 9223372036854775807 ∧ AtSl RInts w pa x.ps ∧ (pa = none → pc = 0)) := by
  obtain ⟨c1, d1, rfl, e1, c2, d2, rfl, e2, c3, d3, rfl, e3, c4, d4, rfl, ⟨ta, tn, tc, rfl, t1, t2, t3, t4⟩, c5, d5, rfl, ⟨ca, cn, cc, rfl, u1, u2, u3, u4⟩, ⟨pa, pn, pc, rfl, v1, v2, v3, v4⟩⟩ := h
  obtain rfl : c1 = _ := e1
  obtain rfl : c2 = _ := e2
  obtain rfl : c3 = _ := e3
  exact ⟨ta, tn, tc, ca, cn, cc, pa, pn, pc, rfl, ⟨t1, t2, atSl_test.1 t3, t4⟩, ⟨u1, u2, atSl_int.1 u3, u4⟩, ⟨v1, v2, v3, v4⟩⟩

theorem RPart.at_open {w : World} {cs : List Value} {x : PartD} (h : RPart.At w cs x) : ∃ ta tn tc ca cn cc pa pn pc, cs = cellsP x.K x.A x.B ta tn tc ca cn cc pa pn pc ∧
    (x.ts.length = tn ∧ tn ≤ 9223372036854775807 ∧ AtE w ta x.ts) ∧ (x.cs.length = cn ∧ cn ≤ 9223372036854775807 ∧ At w ca x.cs) ∧ (x.ps.length = pn ∧ pn ≤ 9223372036854775807 ∧ AtS w pa x.ps) := by
  obtain ⟨ta, tn, tc, ca, cn, cc, pa, pn, pc, e, ⟨t1, t2, t3, _⟩, ⟨u1, u2, u3, _⟩, ⟨v1, v2, v3, _⟩⟩ := RPart.at_open4 h
  exact ⟨ta, tn, tc, ca, cn, cc, pa, pn, pc, e, ⟨t1, t2, t3⟩, ⟨u1, u2, u3⟩, ⟨v1, v2, atSl_ints v3⟩⟩

theorem RPart.at_mk {w : World} {k a b : Int} {ts : List Tst} {zs : List Int} {ps : List (List Int)} {ta : Option Addr} {tn tc : Nat} {ca : Option Addr} {cn cc : Nat} {pa : Option Addr} {pn pc : Nat}
    (h1 : RTests.At w [.slice ta tn tc] ts) (h2 : RInts.At w [.slice ca cn cc] zs) (h3 : RPairs.At w [.slice pa pn pc] ps) : RPart.At w (cellsP k a b ta tn tc ca cn cc pa pn pc) (k, a, b, ts, zs, ps) :=
  ⟨[.int .i64 k], _, rfl, rfl, [.int .i64 a], _, rfl, rfl, [.int .i64 b], _, rfl, rfl, [_], _, rfl, h1, [_], _, rfl, h2, h3⟩

theorem RPart.own_mk {w : World} {F F1 F2 F3 : Nat → Prop} {k a b : Int} {ts : List Tst} {zs : List Int} {ps : List (List Int)} {ta : Option Addr} {tn tc : Nat} {ca : Option Addr} {cn cc : Nat} {pa : Option Addr} {pn pc : Nat}
    (h1 : RTests.Own w F1 [.slice ta tn tc] ts) (h2 : RInts.Own w F2 [.slice ca cn cc] zs) (h3 : RPairs.Own w F3 [.slice pa pn pc] ps) (f1 : ∀ b, F1 b → F b) (f2 : ∀ b, F2 b → F b) (f3 : ∀ b, F3 b → F b)
    (d12 : ∀ b, F1 b → ¬ F2 b) (d13 : ∀ b, F1 b → ¬ F3 b) (d23 : ∀ b, F2 b → ¬ F3 b) : RPart.Own w F (cellsP k a b ta tn tc ca cn cc pa pn pc) (k, a, b, ts, zs, ps) := by
  have no : ∀ (G : Nat → Prop) b, (fun _ => False : Nat → Prop) b → ¬ G b := fun _ _ h => h.elim
  refine ⟨[.int .i64 k], _, fun _ => False, F, rfl, rfl, ⟨[.int .i64 a], _, fun _ => False, F, rfl, rfl, ⟨[.int .i64 b], _, fun _ => False, F, rfl, rfl, ⟨[_], _, F1, fun b => F2 b ∨ F3 b, rfl, h1, ⟨[_], _, F2, F3, rfl, h2, h3, fun b h => .inl h, fun b h => .inr h, d23⟩, f1, ?_, ?_⟩, fun b h => h.elim, fun b h => h, no _⟩, fun b h => h.elim, fun b h => h, no _⟩, fun b h => h.elim, fun b h => h, no _⟩
  · rintro b (h | h)
    · exact f2 b h
    · exact f3 b h
  · rintro b hb (h | h)
    · exact d12 b hb h
    · exact d13 b hb h

theorem RPart.own_open {w : World} {F : Nat → Prop} {cs : List Value} {x : PartD} (h : RPart.Own w F cs x) : ∃ ta tn tc ca cn cc pa pn pc F1 F2 F3, cs = cellsP x.K x.A x.B ta tn tc ca cn cc pa pn pc ∧
    RTests.Own w F1 [.slice ta tn tc] x.ts ∧ RInts.Own w F2 [.slice ca cn cc] x.cs ∧ RPairs.Own w F3 [.slice pa pn pc] x.ps ∧ (∀ b, F1 b → F b) ∧ (∀ b, F2 b → F b) ∧ (∀ b, F3 b → F b) ∧ (∀ b, F1 b → ¬ F2 b) ∧ (∀ b, F1 b → ¬ F3 b) ∧ (∀ b, F2 b → ¬ F3 b) := by
  obtain ⟨c1, d1, _, G1, rfl, e1, ⟨c2, d2, _, G2, rfl, e2, ⟨c3, d3, _, G3, rfl, e3, ⟨c4, d4, F1, G4, rfl, h1, ⟨c5, d5, F2, F3, rfl, h2, h3, a1, a2, a3⟩, b1, b2, b3⟩, _, i1, _⟩, _, i2, _⟩, _, i3, _⟩ := h
  obtain rfl : c1 = _ := e1
  obtain rfl : c2 = _ := e2
  obtain rfl : c3 = _ := e3
  obtain ⟨ta, tn, tc, tcells, tG, rfl, tl⟩ := h1
  obtain ⟨ca, cn, cc, ccells, cG, rfl, cl⟩ := h2
  obtain ⟨pa, pn, pc, pcells, pG, rfl, pl⟩ := h3
  exact ⟨ta, tn, tc, ca, cn, cc, pa, pn, pc, F1, F2, F3, rfl, ⟨ta, tn, tc, tcells, tG, rfl, tl⟩, ⟨ca, cn, cc, ccells, cG, rfl, cl⟩, ⟨pa, pn, pc, pcells, pG, rfl, pl⟩, fun b h => i3 b (i2 b (i1 b (b1 b h))), fun b h => i3 b (i2 b (i1 b (b2 b (a1 b h)))), fun b h => i3 b (i2 b (i1 b (b2 b (a2 b h)))),
    fun b h k => b3 b h (a1 b k), fun b h k => b3 b h (a2 b k), a3⟩

/-- How many slots the laws count for a part; and for some. -/
def pcost (x : PartD) : Nat := x.ts.length + x.cs.length + (x.ps.length + tot x.ps x.ps.length)
def psum (xs : List PartD) (k : Nat) : Nat := ((xs.take k).map pcost).sum
theorem psum_zero (xs : List PartD) : psum xs 0 = 0 := rfl
theorem psum_succ {xs : List PartD} {k : Nat} {x : PartD} (h : xs[k]? = some x) : psum xs (k + 1) = psum xs k + pcost x := by
  have hk := (List.getElem?_eq_some_iff.1 h).1
  have hx := (List.getElem?_eq_some_iff.1 h).2
  unfold psum
  rw [List.take_succ_eq_append_getElem hk, List.map_append, List.sum_append, hx]
  simp
theorem psum_mono (xs : List PartD) (j k : Nat) (h : j ≤ k) : psum xs j ≤ psum xs k := by
  obtain ⟨d, rfl⟩ := Nat.le.dest h
  induction d with
  | zero => exact Nat.le_refl _
  | succ d ih =>
    by_cases hk : j + d < xs.length
    · rw [show j + (d + 1) = (j + d) + 1 from rfl, psum_succ (List.getElem?_eq_getElem hk)]; have := ih (by omega); omega
    · have e1 : psum xs (j + (d + 1)) = psum xs (j + d) := by unfold psum; rw [List.take_of_length_le (by omega), List.take_of_length_le (by omega)]
      rw [e1]; exact ih (by omega)
theorem psum_each {xs : List PartD} {n i : Nat} {x : PartD} (hn : xs.length = n) (h : xs[i]? = some x) : pcost x ≤ psum xs n := by
  have hi := (List.getElem?_eq_some_iff.1 h).1
  have h1 := psum_succ h
  have h2 := psum_mono xs (i + 1) n (by omega)
  omega
def vcost (v : ViewD) : Nat := v.1.length + (v.2.length + psum v.2 v.2.length)

/-- Parts within the laws' bound. -/
def SmPart (x : PartD) : Prop := x.ts.length ≤ 1048576 ∧ x.cs.length ≤ 1048576 ∧ x.ps.length ≤ 1048576 ∧ tot x.ps x.ps.length ≤ 1048576
theorem SmPart.of {x : PartD} (h : pcost x ≤ 1048576) : SmPart x := by unfold pcost at h; exact ⟨by omega, by omega, by omega, by omega⟩
theorem SmPart.each {x : PartD} (h : SmPart x) : ∀ i, i < x.ps.length → (x.ps.getD i []).length ≤ 1048576 := fun i hi => by
  have := tot_each x.ps x.ps.length rfl i hi
  have := h.2.2.2
  omega
def SmView (v : ViewD) : Prop := vcost v ≤ 1048576
theorem SmView.src {v : ViewD} (h : SmView v) : v.1.length ≤ 1048576 := by unfold SmView vcost at h; omega
theorem SmView.len {v : ViewD} (h : SmView v) : v.2.length ≤ 1048576 := by unfold SmView vcost at h; omega
theorem SmView.part {v : ViewD} (h : SmView v) {i : Nat} {x : PartD} (hx : v.2[i]? = some x) : SmPart x := by
  have := psum_each rfl hx
  unfold SmView vcost at h
  exact SmPart.of (by omega)

end Go.Proofs.Ythdcjelahoiepab

/- Contracts of impl.goodTest, impl.passes. -/
namespace Go.Proofs.Ythdcjelahoiepab
open Go.RowKit

/-- A test that rows of so many columns can be put to. -/
def goodE (n : Int) (t : Tst) : Bool := decide (0 ≤ t.2.1 ∧ t.2.1 < n ∧ ((1 ≤ t.1 ∧ t.1 ≤ 3 ∧ -100000 ≤ t.2.2 ∧ t.2.2 ≤ 100000) ∨ (t.1 = 4 ∧ 0 ≤ t.2.2 ∧ t.2.2 < n)))
def passE (zs : List Int) (t : Tst) : Bool :=
  if t.1 = 1 then decide (zs.getD t.2.1.toNat 0 = t.2.2) else if t.1 = 2 then decide (zs.getD t.2.1.toNat 0 < t.2.2) else if t.1 = 3 then decide (t.2.2 < zs.getD t.2.1.toNat 0) else decide (zs.getD t.2.1.toNat 0 = zs.getD t.2.2.toNat 0)

set_option maxRecDepth 100000 in
set_option maxHeartbeats 2000000 in
theorem goodTest_any (q : Int) (x y v : Int) (w : World) :
    Calls Try.prog 88 #[.agg #[.int .i64 x, .int .i64 y, .int .i64 v], .int .i64 q] w fun e w' => e = .returned (.bool (goodE q (x, y, v))) ∧ Below w.heap.size w w' := by
  have hb : Below w.heap.size w (w.alloc (.cells #[.int .i64 x, .int .i64 y, .int .i64 v] 102)) := (Below.refl _ _).alloc (Nat.le_refl _) _
  go_enter Try.func88, Try.ntmps88
  go_wp2
  all_goals (go_ret; refine ⟨ret_bool (Bool.eq_iff_iff.2 ?_), hb⟩; clear hb; unfold goodE; (try simp only [beq_iff_eq, beq_eq_false_iff_ne, ne_eq] at *); (try simp only [decide_eq_true_eq, Bool.false_eq_true, false_iff]); omega)

end Go.Proofs.Ythdcjelahoiepab

/- Contract of impl.GoodTable. -/
namespace Go.Proofs.Ythdcjelahoiepab
open Go.RowKit

end Go.Proofs.Ythdcjelahoiepab

/- Contracts of spec.l1In, spec.l2Weight, spec.GoodTable. -/
namespace Go.Proofs.Ythdcjelahoiepab
open Go.RowKit

theorem l1In_any (x lo hi : Int) (w : World) :
    Calls Try.prog 32 #[.int .i64 x, .int .i64 lo, .int .i64 hi] w fun e w' => e = .returned (.bool (decide (lo ≤ x) && decide (x ≤ hi))) ∧ w' = w := by
  by_cases h : lo ≤ x
  · have h1 : decide (lo ≤ x) = true := decide_eq_true h
    go_enter Try.func32, Try.ntmps32
    go_wp2
    go_ret
    exact ⟨ret_bool (by simp [h]), rfl⟩
  · have h1 : decide (lo ≤ x) = false := decide_eq_false h
    go_enter Try.func32, Try.ntmps32
    go_wp2
    go_ret
    exact ⟨ret_bool (by simp), rfl⟩

end Go.Proofs.Ythdcjelahoiepab

/- Contracts of impl.GoodTests at no more than six columns, impl.passesAll, spec.GoodTests, spec.l3True. -/
namespace Go.Proofs.Ythdcjelahoiepab
open Go.RowKit

def goodEs (q : Int) (es : List Tst) : Bool := decide (es.length ≤ 8) && es.all (goodE q)
def passAll (zs : List Int) (es : List Tst) : Bool := es.all (passE zs)
theorem tat_mem {es : List Tst} {k : Nat} (h : k < es.length) : tat es k ∈ es := by simp [tat, List.getD, h]
theorem all_step (p : Tst → Bool) (es : List Tst) (k : Nat) (h : k < es.length) : (es.take (k + 1)).all p = ((es.take k).all p && p (tat es k)) := by
  rw [List.take_succ_eq_append_getElem h, List.all_append]
  simp [tat, List.getD, h]
theorem all_not {p : Tst → Bool} {es : List Tst} {k : Nat} (h : k < es.length) (hp : p (tat es k) = false) : es.all p = false := by
  cases e : es.all p with
  | false => rfl
  | true => rw [List.all_eq_true.1 e _ (tat_mem h)] at hp; cases hp
theorem goodEs_mem {q : Int} {es : List Tst} (h : goodEs q es = true) : ∀ k, k < es.length → goodE q (tat es k) = true := fun k hk => by
  simp only [goodEs, Bool.and_eq_true] at h
  exact List.all_eq_true.1 h.2 _ (tat_mem hk)
theorem goodEs_len {q : Int} {es : List Tst} (h : goodEs q es = true) : es.length ≤ 8 := by
  simp only [goodEs, Bool.and_eq_true, decide_eq_true_eq] at h
  exact h.1

set_option maxRecDepth 100000 in
set_option maxHeartbeats 2000000 in
theorem implGoodTests_any (a : Option Addr) (n c : Nat) (es : List Tst) (q : Nat) (w : World) (hz : es.length = n) (hn : n ≤ 1048576) (_h6 : q ≤ 6) (ha : AtE w a es) :
    Calls Try.prog 87 #[.slice a n c, .int .i64 q] w fun e w' => e = .returned (.bool (goodEs q es)) ∧ Below w.heap.size w w' := by
  by_cases h8 : n ≤ 8
  · by_cases h0 : n = 0
    · subst h0
      obtain rfl := List.eq_nil_of_length_eq_zero hz
      go_enter Try.func87, Try.ntmps87
      go_wp2
      refine wp_loop_rounds 1 ?_
      rw [rounds_succ]
      go_wp2
      go_ret
      exact ⟨ret_bool (by simp [goodEs]), Below.refl _ _⟩
    · obtain ⟨b, off, rfl, hb, hc⟩ := ha.some (by omega)
      have h8i : (n : Int) ≤ 8 := by omega
      go_enter Try.func87, Try.ntmps87
      go_wp2
      go_loopw [12] (fun i wr => ∃ (k : Nat), k ≤ n ∧ i = .int .i64 k ∧ (es.take k).all (goodE q) = true ∧ Below w.heap.size w wr) (fun i _ => n - (intOf i).toNat)
      case atStart => exact ⟨0, Nat.zero_le _, rfl, rfl, Below.refl _ _⟩
      case round =>
        obtain ⟨k, hk, rfl, hal, hbw⟩ := hrel
        by_cases hlt : k < n
        · obtain ⟨hx, hy, hv⟩ := hc k (by omega)
          have hx := (hbw.cell hb).trans hx
          have hy := (hbw.cell hb).trans hy
          have hv := (hbw.cell hb).trans hv
          have HS := Hid.mk (all_step (goodE q) es k (by omega))
          have HN : Hid (goodE q (tat es k) = false → goodEs q es = false) := fun e => by unfold goodEs; rw [all_not (by omega) e, Bool.and_false]
          generalize tat es k = Y at *
          obtain ⟨x, y, v⟩ := Y
          simp only at hx hy hv
          have hki : (k : Int) < (n : Int) := by omega
          have HB := Hid.mk (hbw.alloc hbw.size (.cells #[.int .i64 x, .int .i64 y, .int .i64 v] 102))
          have HAL := Hid.mk hal
          clear hc hal
          go_wp2_with fail
          refine (goodTest_any q x y v _).mono ?_
          rintro e w2 ⟨rfl, hb2⟩
          have B2 := HB.out.trans (hb2.mono HB.out.size)
          cases hg : goodE q (x, y, v) with
          | true =>
            have HG := Hid.mk hg
            clear hg hb2 HB
            go_wp2
            go_roundw
            case rel => exact ⟨k + 1, by omega, by go_num, by rw [HS.out, HAL.out, HG.out]; rfl, B2⟩
            case measure => simp [intOf]; omega
          | false =>
            have HG := Hid.mk hg
            clear hg hb2 HB
            go_wp2
            go_ret
            exact ⟨ret_bool (HN.out HG.out).symm, B2⟩
        · obtain rfl : k = n := by omega
          go_wp2
          go_ret
          exact ⟨ret_bool (by unfold goodEs; rw [← hz, List.take_length] at hal; rw [hal, hz]; simpa using h8), hbw⟩
  · have h8i : (8 : Int) < (n : Int) := by omega
    go_enter Try.func87, Try.ntmps87
    go_wp2
    go_ret
    exact ⟨ret_bool (by simp [goodEs]; omega), Below.refl _ _⟩

theorem goodE_spec {q x y v : Int} (h6 : q ≤ 6) : goodE q (x, y, v) = decide ((0 ≤ y ∧ y < q) ∧ (1 ≤ x ∧ x ≤ 4) ∧ (x = 4 → 0 ≤ v ∧ v < q) ∧ (-100000 ≤ v ∧ v ≤ 100000)) := by
  unfold goodE
  rw [Bool.eq_iff_iff]
  simp only [decide_eq_true_eq]
  omega

set_option maxRecDepth 100000 in
set_option maxHeartbeats 4000000 in
theorem specGoodTests_any (a : Option Addr) (n c : Nat) (es : List Tst) (q : Nat) (w : World) (hz : es.length = n) (hn : n ≤ 1048576) (h6 : q ≤ 6) (ha : AtE w a es) :
    Calls Try.prog 46 #[.slice a n c, .int .i64 q] w fun e w' => e = .returned (.bool (goodEs q es)) ∧ Below w.heap.size w w' := by
  by_cases h0 : n = 0
  · subst h0
    obtain rfl := List.eq_nil_of_length_eq_zero hz
    go_enter Try.func46, Try.ntmps46
    go_wp2
    refine wp_loop_rounds 1 ?_
    rw [rounds_succ]
    go_wp2
    go_ret
    exact ⟨ret_bool (by simp [goodEs]), Below.refl _ _⟩
  · obtain ⟨b, off, rfl, hb, hc⟩ := ha.some (by omega)
    have h6i : (q : Int) ≤ 6 := by omega
    go_enter Try.func46, Try.ntmps46
    go_wp2
    go_loopw [9] (fun i wr => ∃ (k : Nat), k ≤ n ∧ i = .int .i64 k ∧ (es.take k).all (goodE q) = true ∧ Below w.heap.size w wr) (fun i _ => n - (intOf i).toNat)
    case atStart => exact ⟨0, Nat.zero_le _, rfl, rfl, Below.refl _ _⟩
    case round =>
      obtain ⟨k, hk, rfl, hal, hbw⟩ := hrel
      by_cases hlt : k < n
      · obtain ⟨hx, hy, hv⟩ := hc k (by omega)
        have hx := (hbw.cell hb).trans hx
        have hy := (hbw.cell hb).trans hy
        have hv := (hbw.cell hb).trans hv
        have HS := Hid.mk (all_step (goodE q) es k (by omega))
        have HN : Hid (goodE q (tat es k) = false → goodEs q es = false) := fun e => by unfold goodEs; rw [all_not (by omega) e, Bool.and_false]
        generalize tat es k = Y at *
        obtain ⟨x, y, v⟩ := Y
        simp only at hx hy hv
        have hki : (k : Int) < (n : Int) := by omega
        have HB := Hid.mk (hbw.alloc hbw.size (.cells #[.int .i64 x, .int .i64 y, .int .i64 v] 102))
        have HAL := Hid.mk hal
        have HY : Hid (y < 0 ∨ (q : Int) ≤ y → goodE q (x, y, v) = false) := fun h => by rw [goodE_spec h6i]; exact decide_eq_false (by omega)
        clear hc hal
        by_cases y0 : 0 ≤ y
        rotate_left
        · have y0' : y < 0 := by omega
          go_wp2
          go_ret
          exact ⟨ret_bool (HN.out (HY.out (.inl y0'))).symm, HB.out⟩
        by_cases yq : y < q
        rotate_left
        · have yq' : (q : Int) ≤ y := by omega
          go_wp2
          go_ret
          exact ⟨ret_bool (HN.out (HY.out (.inr yq'))).symm, HB.out⟩
        by_cases x1 : 1 ≤ x ∧ x ≤ 4
        rotate_left
        · have hxx : (decide (1 ≤ x) && decide (x ≤ 4)) = false := by rw [Bool.and_eq_false_iff]; simp only [decide_eq_false_iff_not]; omega
          have HG : Hid (goodE q (x, y, v) = false) := by show _ = _; rw [goodE_spec h6i]; exact decide_eq_false (by omega)
          go_wp2_with (go_at_call 32; refine (l1In_any _ _ _ _).mono ?_; rintro e w2 ⟨rfl, hw⟩; obtain rfl := hw.symm; rw [hxx])
          go_ret
          exact ⟨ret_bool (HN.out HG.out).symm, HB.out⟩
        have hxx : (decide (1 ≤ x) && decide (x ≤ 4)) = true := by simp [x1]
        have HXX := Hid.mk x1
        by_cases v1 : -100000 ≤ v ∧ v ≤ 100000
        rotate_left
        · have hvv : (decide (-100000 ≤ v) && decide (v ≤ 100000)) = false := by rw [Bool.and_eq_false_iff]; simp only [decide_eq_false_iff_not]; omega
          have HG : Hid (goodE q (x, y, v) = false) := by show _ = _; rw [goodE_spec h6i]; exact decide_eq_false (by omega)
          clear x1 v1
          by_cases x4 : x = 4
          · subst x4
            go_wp2_with (first | (go_at_call 32; refine (l1In_any _ _ _ _).mono ?_; rintro e w2 ⟨rfl, hw⟩; obtain rfl := hw.symm; first | rw [hxx] | rw [hvv]))
            all_goals (go_ret; exact ⟨ret_bool (HN.out HG.out).symm, HB.out⟩)
          · have x4' : (x == 4) = false := by simpa using x4
            go_wp2_with (first | (go_at_call 32; refine (l1In_any _ _ _ _).mono ?_; rintro e w2 ⟨rfl, hw⟩; obtain rfl := hw.symm; first | rw [hxx] | rw [hvv]))
            all_goals (go_ret; exact ⟨ret_bool (HN.out HG.out).symm, HB.out⟩)
        have hvv : (decide (-100000 ≤ v) && decide (v ≤ 100000)) = true := by simp [v1]
        have HV1 := Hid.mk v1
        by_cases x4 : x = 4
        · subst x4
          clear x1 v1
          by_cases vq : 0 ≤ v ∧ v < q
          · have HG : Hid (goodE q (4, y, v) = true) := by show _ = _; rw [goodE_spec h6i]; have := HV1.out; exact decide_eq_true (by omega)
            obtain ⟨vq0, vq1⟩ := vq
            go_wp2_with (first | (go_at_call 32; refine (l1In_any _ _ _ _).mono ?_; rintro e w2 ⟨rfl, hw⟩; obtain rfl := hw.symm; first | rw [hxx] | rw [hvv]))
            go_roundw
            case rel => exact ⟨k + 1, by omega, by go_num, by rw [HS.out, HAL.out, HG.out]; rfl, HB.out⟩
            case measure => simp [intOf]; omega
          · have HG : Hid (goodE q (4, y, v) = false) := by show _ = _; rw [goodE_spec h6i]; exact decide_eq_false (by omega)
            by_cases v0 : 0 ≤ v
            · have vq1 : (q : Int) ≤ v := by omega
              clear vq
              go_wp2_with (first | (go_at_call 32; refine (l1In_any _ _ _ _).mono ?_; rintro e w2 ⟨rfl, hw⟩; obtain rfl := hw.symm; first | rw [hxx] | rw [hvv]))
              all_goals (go_ret; exact ⟨ret_bool (HN.out HG.out).symm, HB.out⟩)
            · have v0' : v < 0 := by omega
              clear vq
              go_wp2_with (first | (go_at_call 32; refine (l1In_any _ _ _ _).mono ?_; rintro e w2 ⟨rfl, hw⟩; obtain rfl := hw.symm; first | rw [hxx] | rw [hvv]))
              all_goals (go_ret; exact ⟨ret_bool (HN.out HG.out).symm, HB.out⟩)
        · have x4' : (x == 4) = false := by simpa using x4
          have HG : Hid (goodE q (x, y, v) = true) := by show _ = _; rw [goodE_spec h6i]; exact decide_eq_true (by omega)
          clear x1 v1
          go_wp2_with (first | (go_at_call 32; refine (l1In_any _ _ _ _).mono ?_; rintro e w2 ⟨rfl, hw⟩; obtain rfl := hw.symm; first | rw [hxx] | rw [hvv]))
          go_roundw
          case rel => exact ⟨k + 1, by omega, by go_num, by rw [HS.out, HAL.out, HG.out]; rfl, HB.out⟩
          case measure => simp [intOf]; omega
      · obtain rfl : k = n := by omega
        rw [← hz, List.take_length] at hal
        have HAL := Hid.mk hal
        clear hal
        go_wp2
        go_ret
        exact ⟨ret_bool (by unfold goodEs; rw [HAL.out, hz]; simp; omega), hbw⟩
end Go.Proofs.Ythdcjelahoiepab

/- Plain: what a function hands out that passes on some of another one's rows. -/
namespace Go.Proofs.Ythdcjelahoiepab

/-- How many have been handed out when k rows have come. -/
def outW (g : WRow → Option WRow) (xs : List WRow) (k : Nat) : Nat := ((xs.take k).filterMap g).length
theorem outW_zero (g : WRow → Option WRow) (xs : List WRow) : outW g xs 0 = 0 := rfl
theorem outW_all (g : WRow → Option WRow) (xs : List WRow) : outW g xs xs.length = (xs.filterMap g).length := by simp [outW]
theorem outW_none {g : WRow → Option WRow} {xs : List WRow} {k : Nat} (h : k < xs.length) (hg : g (wat xs k) = none) : outW g xs (k + 1) = outW g xs k := by
  unfold outW
  rw [wtake_succ xs k h, List.filterMap_append, List.filterMap_cons, hg]
  simp
theorem outW_some {g : WRow → Option WRow} {xs : List WRow} {k : Nat} {v : WRow} (h : k < xs.length) (hg : g (wat xs k) = some v) :
    outW g xs (k + 1) = outW g xs k + 1 ∧ outW g xs k < (xs.filterMap g).length ∧ wat (xs.filterMap g) (outW g xs k) = v := by
  have e : xs.filterMap g = (xs.take k).filterMap g ++ v :: (xs.drop (k + 1)).filterMap g := by
    have h2 : xs = xs.take k ++ wat xs k :: xs.drop (k + 1) := by
      have h3 := (List.take_append_drop k xs).symm
      rw [List.drop_eq_getElem_cons h] at h3
      rw [show wat xs k = xs[k] by simp [wat, List.getD, h]]
      exact h3
    have h4 := congrArg (List.filterMap g) h2
    rw [List.filterMap_append, List.filterMap_cons, hg] at h4
    exact h4
  refine ⟨?_, ?_, ?_⟩
  · unfold outW
    rw [wtake_succ xs k h, List.filterMap_append, List.filterMap_cons, hg]
    simp
  · rw [e]; unfold outW; simp
  · rw [e]; unfold outW
    simp [wat, List.getD]

end Go.Proofs.Ythdcjelahoiepab

/- Contract of spec.l2Tell. -/
namespace Go.Proofs.Ythdcjelahoiepab
open Go.RowKit

theorem wtake_all' (ts : List WRow) {n : Nat} (h : ts.length = n) : ts.take n = ts := List.take_of_length_le (by omega)

end Go.Proofs.Ythdcjelahoiepab
