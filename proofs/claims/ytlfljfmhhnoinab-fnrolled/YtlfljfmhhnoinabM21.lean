/- Cells that mean groups, whoever owns them. -/
import Derived.Test.YtlfljfmhhnoinabM16
import Derived.Test.YtlfljfmhhnoinabM6
namespace Go.Proofs.Ytlfljfmhhnoinab
open Go.RowKit

/-- Cells that mean weighted rows. -/
def MeansN (w : World) : List Value → List GRow → Prop
  | [], [] => True
  | u :: v :: k :: cs, t :: ts => (∃ a c, u = .slice a t.1.length c ∧ (a = none → c = 0) ∧ At w a t.1) ∧ t.1.length ≤ 9223372036854775807 ∧ v = .int .i64 t.2.1 ∧ k = .int .i64 t.2.2 ∧ MeansN w cs ts
  | _, _ => False

theorem MeansN.nil (w : World) : MeansN w [] [] := trivial
theorem MeansN.one {w : World} {a : Option Addr} {zs : List Int} {n c : Nat} {x y : Int} (hn : zs.length = n) (h6 : n ≤ 9223372036854775807) (hnil : a = none → c = 0) (h : At w a zs) : MeansN w [.slice a n c, .int .i64 x, .int .i64 y] [(zs, x, y)] :=
  ⟨⟨a, c, by rw [hn], hnil, h⟩, by simp only [hn]; exact h6, rfl, rfl, trivial⟩

set_option linter.unusedVariables false in
theorem MeansN.length {w : World} : ∀ {cs : List Value} {ts : List GRow}, MeansN w cs ts → cs.length = ts.length * 3
  | [], [], _ => rfl
  | [], _ :: _, h => h.elim
  | [_], [], h => h.elim
  | [_, _], [], h => h.elim
  | [_], _ :: _, h => h.elim
  | [_, _], _ :: _, h => h.elim
  | _ :: _ :: _ :: _, [], h => h.elim
  | u :: v :: k' :: cs, t :: ts, ⟨_, _, _, _, h⟩ => by have := MeansN.length h; simp [this]; omega

set_option linter.unusedVariables false in
theorem MeansN.below {w w' : World} (hb : Below w.heap.size w w') : ∀ {cs : List Value} {ts : List GRow}, MeansN w cs ts → MeansN w' cs ts
  | [], [], _ => trivial
  | [], _ :: _, h => h.elim
  | [_], [], h => h.elim
  | [_, _], [], h => h.elim
  | [_], _ :: _, h => h.elim
  | [_, _], _ :: _, h => h.elim
  | _ :: _ :: _ :: _, [], h => h.elim
  | u :: v :: k' :: cs, t :: ts, ⟨⟨a, c, h1, h0, h2⟩, h3, h4, h4', h5⟩ => ⟨⟨a, c, h1, h0, h2.below hb⟩, h3, h4, h4', MeansN.below hb h5⟩

set_option linter.unusedVariables false in
theorem MeansN.append {w : World} : ∀ {cs cs' : List Value} {ts ts' : List GRow}, MeansN w cs ts → MeansN w cs' ts' → MeansN w (cs ++ cs') (ts ++ ts')
  | [], _, [], _, _, h => h
  | [], _, _ :: _, _, h, _ => h.elim
  | [_], _, [], _, h, _ => h.elim
  | [_, _], _, [], _, h, _ => h.elim
  | [_], _, _ :: _, _, h, _ => h.elim
  | [_, _], _, _ :: _, _, h, _ => h.elim
  | _ :: _ :: _ :: _, _, [], _, h, _ => h.elim
  | u :: v :: k' :: cs, cs', t :: ts, ts', ⟨h1, h2, h3, h3', h4⟩, h => ⟨h1, h2, h3, h3', MeansN.append h4 h⟩

set_option linter.unusedVariables false in
theorem MeansN.take {w : World} : ∀ {cs : List Value} {ts : List GRow} (k : Nat), MeansN w cs ts → MeansN w (cs.take (k * 3)) (ts.take k)
  | [], [], _, _ => by simp [MeansN]
  | [], _ :: _, _, h => h.elim
  | [_], [], _, h => h.elim
  | [_, _], [], _, h => h.elim
  | [_], _ :: _, _, h => h.elim
  | [_, _], _ :: _, _, h => h.elim
  | _ :: _ :: _ :: _, [], _, h => h.elim
  | u :: v :: k' :: cs, t :: ts, 0, _ => by simp [MeansN]
  | u :: v :: k' :: cs, t :: ts, k + 1, ⟨h1, h2, h3, h3', h4⟩ => by
    rw [show (k + 1) * 3 = k * 3 + 1 + 1 + 1 by omega]
    exact ⟨h1, h2, h3, h3', MeansN.take k h4⟩
set_option linter.unusedVariables false in
theorem MeansN.drop {w : World} : ∀ {cs : List Value} {ts : List GRow} (k : Nat), MeansN w cs ts → MeansN w (cs.drop (k * 3)) (ts.drop k)
  | [], [], _, _ => by simp [MeansN]
  | [], _ :: _, _, h => h.elim
  | [_], [], _, h => h.elim
  | [_, _], [], _, h => h.elim
  | [_], _ :: _, _, h => h.elim
  | [_, _], _ :: _, _, h => h.elim
  | _ :: _ :: _ :: _, [], _, h => h.elim
  | u :: v :: k' :: cs, t :: ts, 0, h => by simpa using h
  | u :: v :: k' :: cs, t :: ts, k + 1, ⟨h1, h2, h3, h3', h4⟩ => by
    rw [show (k + 1) * 3 = k * 3 + 1 + 1 + 1 by omega]
    exact MeansN.drop k h4

set_option linter.unusedVariables false in
theorem MeansN.at {w : World} : ∀ {cs : List Value} {ts : List GRow} (i : Nat), MeansN w cs ts → i < ts.length → ∃ a c, cs[i * 3]? = some (.slice a (gat ts i).1.length c) ∧ cs[i * 3 + 1]? = some (.int .i64 (gat ts i).2.1) ∧ cs[i * 3 + 2]? = some (.int .i64 (gat ts i).2.2) ∧ (gat ts i).1.length ≤ 9223372036854775807 ∧ (a = none → c = 0) ∧ At w a (gat ts i).1
  | [], [], _, _, h => by simp at h
  | [], _ :: _, _, h, _ => h.elim
  | [_], [], _, h, _ => h.elim
  | [_, _], [], _, h, _ => h.elim
  | [_], _ :: _, _, h, _ => h.elim
  | [_, _], _ :: _, _, h, _ => h.elim
  | _ :: _ :: _ :: _, [], _, h, _ => h.elim
  | u :: v :: k' :: cs, t :: ts, 0, ⟨⟨a, c, h1, h0, h2⟩, h3, h4, h4', _⟩, _ => ⟨a, c, by simp [gat, h1], by simp [gat, h4], by simp [gat, h4'], by simpa [gat] using h3, h0, by simpa [gat] using h2⟩
  | u :: v :: k' :: cs, t :: ts, i + 1, ⟨_, _, _, _, h5⟩, hi => by
    obtain ⟨a, c, k1, k2, k2', k3, k0, k4⟩ := MeansN.at i h5 (by simpa using hi)
    have e : gat (t :: ts) (i + 1) = gat ts i := by simp [gat]
    rw [e]
    refine ⟨a, c, ?_, ?_, ?_, k3, k0, k4⟩
    · rw [show (i + 1) * 3 = i * 3 + 1 + 1 + 1 by omega]; simpa using k1
    · rw [show (i + 1) * 3 + 1 = (i * 3 + 1) + 1 + 1 + 1 by omega]; simpa using k2
    · rw [show (i + 1) * 3 + 2 = (i * 3 + 2) + 1 + 1 + 1 by omega]; simpa using k2'

set_option linter.unusedVariables false in
theorem MeansN.oneCell {w : World} : ∀ {cs : List Value} {ts : List GRow}, MeansN w cs ts → ∀ u ∈ cs, u.oneCell' = true
  | [], [], _, _, h => by cases h
  | [], _ :: _, h, _, _ => h.elim
  | [_], [], h, _, _ => h.elim
  | [_, _], [], h, _, _ => h.elim
  | [_], _ :: _, h, _, _ => h.elim
  | [_, _], _ :: _, h, _, _ => h.elim
  | _ :: _ :: _ :: _, [], h, _, _ => h.elim
  | u :: v :: k' :: cs, t :: ts, ⟨⟨a, c, h1, _, _⟩, _, h4, h4', h5⟩, x, hx => by
    rcases List.mem_cons.1 hx with rfl | hx
    · subst h1; rfl
    · rcases List.mem_cons.1 hx with rfl | hx
      · subst h4; rfl
      · rcases List.mem_cons.1 hx with rfl | hx
        · subst h4'; rfl
        · exact MeansN.oneCell h5 x hx

theorem meansN_of {w : World} : ∀ {ts : List GRow} {cs : List Value}, cs.length = ts.length * 3 → (∀ i, i < ts.length → ∃ a c, cs[i * 3]? = some (.slice a (gat ts i).1.length c) ∧ cs[i * 3 + 1]? = some (.int .i64 (gat ts i).2.1) ∧ cs[i * 3 + 2]? = some (.int .i64 (gat ts i).2.2) ∧ (gat ts i).1.length ≤ 9223372036854775807 ∧ (a = none → c = 0) ∧ At w a (gat ts i).1) → MeansN w cs ts
  | [], [], _, _ => trivial
  | [], _ :: _, h, _ => by simp at h
  | _ :: _, [], h, _ => by simp at h
  | _ :: _, [_], h, _ => by simp at h; omega
  | _ :: _, [_, _], h, _ => by simp at h; omega
  | t :: ts, u :: v :: k' :: cs, hl, h => by
    obtain ⟨a, c, k1, k2, k2', k3, k0, k4⟩ := h 0 (by simp)
    have e : gat (t :: ts) 0 = t := by simp [gat]
    rw [e] at k1 k2 k2' k3 k4
    refine ⟨⟨a, c, by simpa using k1, k0, k4⟩, k3, by simpa using k2, by simpa using k2', meansN_of (by simp at hl; omega) fun i hi => ?_⟩
    obtain ⟨a, c, k1, k2, k2', k3, k0, k4⟩ := h (i + 1) (by simpa using hi)
    have e : gat (t :: ts) (i + 1) = gat ts i := by simp [gat]
    rw [e] at k1 k2 k2' k3 k4
    rw [show (i + 1) * 3 = i * 3 + 1 + 1 + 1 by omega] at k1 k2 k2'
    exact ⟨a, c, by simpa using k1, by simpa using k2, by simpa using k2', k3, k0, k4⟩

theorem MeansN.atV {w : World} {cs : List Value} {ts : List GRow} {b off : Nat} (h : MeansN w cs ts) (hc : ∀ j u, cs[j]? = some u → w.cell? ⟨b, off + j, none⟩ = some u) : AtV w (some ⟨b, off, none⟩) ts :=
  .inr ⟨b, off, rfl, fun i hi => by
    obtain ⟨a, c, k1, k2, k2', k3, _, k4⟩ := h.at i hi
    exact ⟨a, c, by rw [hc _ _ k1], by rw [show off + i * 3 + 1 = off + (i * 3 + 1) by omega, hc _ _ k2], by rw [show off + i * 3 + 2 = off + (i * 3 + 2) by omega, hc _ _ k2'], k3, k4⟩⟩

theorem MeansN.owned {w : World} {cs : List Value} {ts : List GRow} {base : Nat} {e : TypeId} {a : Option Addr} {n c : Nat} (h : MeansN w cs ts) (hn : ts.length = n) (ho : w.ownsRow base e 3 (.slice a n c) n cs) : AtV w a ts := by
  have hl := h.length
  rcases ho.2 with ⟨h', rfl⟩ | ⟨g, cap, cur, h', _⟩
  · left; exact List.eq_nil_of_length_eq_zero hn
  · simp only [Value.slice.injEq, true_and] at h'
    obtain ⟨rfl, rfl⟩ := h'
    refine h.atV fun j u hj => ?_
    have hj' := (List.getElem?_eq_some_iff.1 hj).1
    rw [Nat.zero_add, ho.cellAt j (by omega)]
    exact hj

/-- A slice of weighted rows as a model's function reads it: where a row's slice is nil it has no room. -/
def AtN (w : World) (a : Option Addr) (ts : List GRow) : Prop :=
  ts = [] ∨ ∃ b off cs, a = some ⟨b, off, none⟩ ∧ MeansN w cs ts ∧ ∀ j u, cs[j]? = some u → w.cell? ⟨b, off + j, none⟩ = some u

theorem AtN.atV {w : World} {a : Option Addr} {ts : List GRow} (h : AtN w a ts) : AtV w a ts := by
  rcases h with rfl | ⟨b, off, cs, rfl, hm, hc⟩
  · exact .inl rfl
  · exact hm.atV hc
theorem AtN.below {w w' : World} {a : Option Addr} {ts : List GRow} (h : AtN w a ts) (hb : Below w.heap.size w w') : AtN w' a ts := by
  rcases h with rfl | ⟨b, off, cs, rfl, hm, hc⟩
  · exact .inl rfl
  · exact .inr ⟨b, off, cs, rfl, hm.below hb, fun j u hj => cell_later hb (hc j u hj)⟩
theorem AtN.alloc {w : World} {a : Option Addr} {ts : List GRow} (h : AtN w a ts) (o : Obj) : AtN (w.alloc o) a ts := h.below ((Below.refl _ _).alloc (Nat.le_refl _) o)
theorem AtN.drew {w : World} {a : Option Addr} {ts : List GRow} (h : AtN w a ts) : AtN w.drew a ts := h.below (Below.refl _ _).drew
theorem atN_nil (w : World) (a : Option Addr) : AtN w a [] := .inl rfl
theorem MeansN.ownedN {w : World} {cs : List Value} {ts : List GRow} {base : Nat} {e : TypeId} {a : Option Addr} {n c : Nat} (h : MeansN w cs ts) (hn : ts.length = n) (ho : w.ownsRow base e 3 (.slice a n c) n cs) : AtN w a ts := by
  have hl := h.length
  rcases ho.2 with ⟨h', rfl⟩ | ⟨g, cap, cur, h', _⟩
  · left; exact List.eq_nil_of_length_eq_zero hn
  · simp only [Value.slice.injEq, true_and] at h'
    obtain ⟨rfl, rfl⟩ := h'
    refine .inr ⟨g, 0, cs, rfl, h, fun j u hj => ?_⟩
    have hj' := (List.getElem?_eq_some_iff.1 hj).1
    rw [Nat.zero_add, ho.cellAt j (by omega)]
    exact hj
theorem OwnVk.meansN {w : World} {lo hi : Nat} {te ti : TypeId} {a : Option Addr} {n c : Nat} {ts : List GRow} {cells : List Value} (h : OwnV w lo hi te ti a n c ts cells) (hs : ∀ i, i < n → (gat ts i).1.length ≤ 9223372036854775807) : MeansN w cells ts :=
  meansN_of (by rw [h.len]; exact h.outer.1) fun i hi => by
    rw [h.len] at hi
    obtain ⟨a', c', k1, k2, k2', k3⟩ := h.row i hi
    exact ⟨a', c', k1, k2, k2', hs i hi, owns_nil k3, At.owned k3⟩
theorem OwnVk.atN {w : World} {lo hi : Nat} {te ti : TypeId} {a : Option Addr} {n c : Nat} {ts : List GRow} {cells : List Value} (h : OwnV w lo hi te ti a n c ts cells) (hs : ∀ i, i < n → (gat ts i).1.length ≤ 9223372036854775807) : AtN w a ts :=
  (h.meansN hs).ownedN h.len h.outer
/-- One row of it. -/
theorem AtN.some {w : World} {a : Option Addr} {ts : List GRow} (h : AtN w a ts) (hp : 0 < ts.length) :
    ∃ b off, a = Option.some ⟨b, off, none⟩ ∧ ∀ i, i < ts.length → ∃ a' c', w.cell? ⟨b, off + i * 3, none⟩ = Option.some (.slice a' (gat ts i).1.length c') ∧ w.cell? ⟨b, off + i * 3 + 1, none⟩ = Option.some (.int .i64 (gat ts i).2.1) ∧ w.cell? ⟨b, off + i * 3 + 2, none⟩ = Option.some (.int .i64 (gat ts i).2.2) ∧
      (gat ts i).1.length ≤ 9223372036854775807 ∧ (a' = none → c' = 0) ∧ At w a' (gat ts i).1 := by
  rcases h with rfl | ⟨b, off, cs, rfl, hm, hc⟩
  · simp at hp
  · refine ⟨b, off, rfl, fun i hi => ?_⟩
    obtain ⟨a', c', k1, k2, k2', k3, k0, k4⟩ := hm.at i hi
    exact ⟨a', c', hc _ _ k1, by rw [show off + i * 3 + 1 = off + (i * 3 + 1) by omega]; exact hc _ _ k2, by rw [show off + i * 3 + 2 = off + (i * 3 + 2) by omega]; exact hc _ _ k2', k3, k0, k4⟩

end Go.Proofs.Ytlfljfmhhnoinab
