/- Slices of numbers and of slices of numbers as things in memory. -/
import Derived.Test.YtecaaekilbdgdaaRep
import Derived.Test.YtecaaekilbdgdaaIntSS
namespace Go.Proofs.Ytecaaekilbdgdaa
open Go.RowKit

theorem atSl_int {w : World} {a : Option Addr} {zs : List Int} : AtSl Rep.int w a zs ↔ At w a zs := by
  constructor
  · rintro (h | ⟨b, off, rfl, hc⟩)
    · exact .inl h
    · refine .inr ⟨b, off, rfl, fun i hi => ?_⟩
      obtain ⟨cs, h1, h2⟩ := hc i zs[i] (List.getElem?_eq_getElem hi)
      obtain rfl : cs = [.int .i64 zs[i]] := h2
      have := h1 0 _ rfl
      simpa [Rep.int, List.getD, hi] using this
  · rintro (h | ⟨b, off, rfl, hc⟩)
    · exact .inl h
    · refine .inr ⟨b, off, rfl, fun i x hx => ⟨[.int .i64 x], fun j v hv => ?_, rfl⟩⟩
      have hi := (List.getElem?_eq_some_iff.1 hx).1
      have := hc i hi
      match j, hv with
      | 0, hv =>
        obtain rfl := Option.some.inj hv
        simpa [Rep.int, List.getD, hx] using this

abbrev RInts : Rep (List Int) := Rep.slice 3 Rep.int
abbrev RPairs : Rep (List (List Int)) := Rep.slice 22 RInts

theorem RInts.at_iff {w : World} {a : Option Addr} {n c : Nat} {zs : List Int} : RInts.At w [.slice a n c] zs ↔ zs.length = n ∧ n ≤ 9223372036854775807 ∧ At w a zs ∧ (a = none → c = 0) := by
  constructor
  · rintro ⟨a', n', c', e, h1, h2, h3, h4⟩
    simp only [List.cons.injEq, Value.slice.injEq, and_true] at e
    obtain ⟨rfl, rfl, rfl⟩ := e
    exact ⟨h1, h2, atSl_int.1 h3, h4⟩
  · rintro ⟨h1, h2, h3, h4⟩
    exact ⟨a, n, c, rfl, h1, h2, atSl_int.2 h3, h4⟩

theorem cells_ints {cells : List Value} {zs : List Int} (hl : cells.length = zs.length) (h : ∀ (i : Nat) (x : Int), zs[i]? = some x → cells[i]? = some (Value.int .i64 x)) : cells = zs.map (.int .i64) := by
  apply List.ext_getElem?
  intro j
  by_cases hj : j < zs.length
  · rw [h j _ (List.getElem?_eq_getElem hj)]; simp [hj]
  · rw [List.getElem?_eq_none (by omega), List.getElem?_eq_none (by simp; omega)]

theorem owns_base {w : World} {base : Nat} {e : TypeId} {size : Nat} {v : Value} {n : Nat} {xs : List Value} (h : w.ownsRow 0 e size v n xs) (hb : ∀ b, v.ownBlock = some b → base ≤ b) : w.ownsRow base e size v n xs := by
  refine ⟨h.1, ?_⟩
  rcases h.2 with hn | ⟨g, cap, cur, rfl, _, rest⟩
  · exact .inl hn
  · exact .inr ⟨g, cap, cur, rfl, hb g rfl, rest⟩

theorem RInts.own_iff {w : World} {F : Nat → Prop} {a : Option Addr} {n c : Nat} {zs : List Int} :
    RInts.Own w F [.slice a n c] zs ↔ zs.length = n ∧ n ≤ 9223372036854775807 ∧ w.ownsRow 0 3 1 (.slice a n c) n (zs.map (.int .i64)) ∧ ∀ b, (Value.slice a n c).ownBlock = some b → F b := by
  constructor
  · rintro ⟨a', n', c', cells, G, e, h⟩
    simp only [List.cons.injEq, Value.slice.injEq, and_true] at e
    obtain ⟨rfl, rfl, rfl⟩ := e
    have hc : cells = zs.map (.int .i64) := by
      refine cells_ints (by have := h.outer.1; simp [Rep.int] at this; rw [this, h.len]) (fun i x hx => ?_)
      have hi : i < n := by rw [← h.len]; exact (List.getElem?_eq_some_iff.1 hx).1
      have e : sub cells (i * 1) 1 = [.int .i64 x] := h.row i x hi hx
      have e2 : (sub cells (i * 1) 1)[0]? = cells[i * 1 + 0]? := sub_at (by omega)
      rw [e] at e2
      simpa using e2.symm
    refine ⟨h.len, h.big, ?_, h.outerF⟩
    rw [← hc]; exact h.outer
  · rintro ⟨h1, h2, h3, h4⟩
    refine ⟨a, n, c, _, fun _ _ => False, rfl, h1, h2, h3, h4, fun i x hi hx => ?_, fun i b hi hb => hb.elim, fun i j b _ _ _ hb => hb.elim⟩
    show sub (zs.map (.int .i64)) (i * 1) 1 = [.int .i64 x]
    apply List.ext_getElem?
    intro j
    by_cases hj : j < 1
    · rw [sub_at hj]
      obtain rfl : j = 0 := by omega
      simp [hx]
    · rw [List.getElem?_eq_none (by simp [sub]; omega), List.getElem?_eq_none (by simp; omega)]

/-- What the contracts of stage 1 to 5 say of a slice of numbers, told as a thing that is owned. -/
theorem RInts.of_owns {w : World} {base : Nat} {a : Option Addr} {n c : Nat} {zs : List Int} (hz : zs.length = n) (hn : n ≤ 9223372036854775807) (h : w.ownsRow base 3 1 (.slice a n c) n (zs.map (.int .i64))) :
    RInts.Own w (From base w.heap.size) [.slice a n c] zs := RInts.own_iff.2 ⟨hz, hn, owns_mono h (Nat.zero_le _), fun b hb => h.lt b hb⟩

theorem atSl_ints {w : World} {a : Option Addr} {zss : List (List Int)} (h : AtSl RInts w a zss) : AtS w a zss := by
  rcases h with h | ⟨b, off, rfl, hc⟩
  · exact .inl h
  · refine .inr ⟨b, off, rfl, fun i hi => ?_⟩
    obtain ⟨cs, h1, h2⟩ := hc i zss[i] (List.getElem?_eq_getElem hi)
    obtain ⟨a', n', c', rfl, e1, e2, e3, _⟩ := h2
    have g0 := h1 0 _ rfl
    have ht : zss.getD i [] = zss[i] := by simp [List.getD, hi]
    rw [ht, e1]
    exact ⟨a', c', by simpa [RInts, Rep.slice] using g0, e2, atSl_int.1 e3⟩

/-- A slice of slices of numbers that a contract of stage 1 owns, as a thing that is owned. -/
theorem RPairs.of_own {w : World} {lo hi g n : Nat} {zss : List (List Int)} (h : OwnS w lo hi 22 3 g n zss) (hn : n ≤ 1048576) (hs : ∀ i, i < zss.length → (zss.getD i []).length ≤ 1048576) : RPairs.Own w (From lo hi) [.slice (some ⟨g, 0, none⟩) n n] zss := by
  obtain ⟨vs, L, h1, h2, h3, h4, h5, h6, h7, h8, h9⟩ := h
  have hm := mono_le h5
  have q0 := hm 0 n (by omega) (Nat.le_refl _)
  refine ⟨some ⟨g, 0, none⟩, n, n, vs, fun i b => L i ≤ b ∧ b < L (i + 1), rfl, h1, by omega, ⟨by simpa [Rep.slice] using h2, .inr ⟨g, n, vs.toArray, rfl, Nat.zero_le _, h8, Nat.le_refl _, by unfold maxLen; omega, by simpa [Rep.slice] using h2, by simp [Rep.slice, ← h2]⟩⟩,
    fun b hb => ?_, fun i x hi hx => ?_, fun i b hi hb => ?_, fun i j b hi hj hij hb hb' => ?_⟩
  · obtain rfl : g = b := by simpa [Value.ownBlock] using hb
    exact ⟨h3, by omega⟩
  · obtain ⟨a', c', k1, k2, k3⟩ := h9 i hi
    have ht : zss.getD i [] = x := by simp [List.getD, hx]
    have hsx := hs i (by omega)
    rw [ht] at k1 k2 k3 hsx
    have e : sub vs (i * 1) 1 = [.slice a' x.length c'] := by
      apply List.ext_getElem?
      intro j
      by_cases hj : j < 1
      · rw [sub_at hj]; obtain rfl : j = 0 := by omega
        simpa using k1
      · rw [List.getElem?_eq_none (by simp [sub]; omega), List.getElem?_eq_none (by simp; omega)]
    show RInts.Own w _ (sub vs (i * 1) 1) x
    rw [e]
    exact RInts.own_iff.2 ⟨rfl, by omega, owns_mono k2 (Nat.zero_le _), fun b hb => ⟨(k2.lt b hb).1, k3 b hb⟩⟩
  · have q1 := hm 0 i (by omega) (by omega)
    have q2 := hm (i + 1) n (by omega) (Nat.le_refl _)
    exact ⟨⟨by omega, by omega⟩, by simp [Value.ownBlock]; omega⟩
  · rcases Nat.lt_or_gt_of_ne hij with hlt | hlt
    · have := hm (i + 1) j (by omega) (by omega); omega
    · have := hm (j + 1) i (by omega) (by omega); omega

end Go.Proofs.Ytecaaekilbdgdaa
