/- Cells that mean weighted rows, all of them in blocks of G; what keeps them. -/
import Derived.Test.YtlfljfmhhnoinabGreatM6
namespace Go.Proofs.YtlfljfmhhnoinabGreat
open Go.RowKit

/-- A slice of ints that lies in a block of G. -/
def AtG (G : Nat → Prop) (w : World) (a : Option Addr) (zs : List Int) : Prop := At w a zs ∧ (zs = [] ∨ ∃ b off, a = some ⟨b, off, none⟩ ∧ G b)
theorem AtG.below {G : Nat → Prop} {w w' : World} {a : Option Addr} {zs : List Int} (h : AtG G w a zs) (hb : Below w.heap.size w w') : AtG G w' a zs := ⟨h.1.below hb, h.2⟩
theorem AtG.owned {G : Nat → Prop} {w : World} {base : Nat} {e : TypeId} {a : Option Addr} {n c : Nat} {zs : List Int} (hG : ∀ k, base ≤ k → G k) (h : w.ownsRow base e 1 (.slice a n c) n (zs.map (.int .i64))) : AtG G w a zs := by
  refine ⟨At.owned h, ?_⟩
  rcases h.2 with ⟨_, hx⟩ | ⟨g, cap, cur, e, hb, _⟩
  · left
    have h1 := h.1
    rw [hx] at h1
    simp only [List.length_map, Nat.zero_mul] at h1
    exact List.eq_nil_of_length_eq_zero h1
  · cases e
    exact .inr ⟨g, 0, rfl, hG g hb⟩
theorem AtG.mono {G G' : Nat → Prop} {w : World} {a : Option Addr} {zs : List Int} (h : AtG G w a zs) (hG : ∀ k, k < w.heap.size → G k → G' k) : AtG G' w a zs := by
  refine ⟨h.1, ?_⟩
  rcases h.2 with h0 | ⟨b, off, rfl, hg⟩
  · exact .inl h0
  · rcases h.1 with h0 | ⟨b', off', e, hc⟩
    · exact .inl h0
    · by_cases hz : zs = []
      · exact .inl hz
      · cases e
        exact .inr ⟨b, off, rfl, hG b (World.block_lt_of_cell? _ _ (hc 0 (List.length_pos_iff.2 hz))) hg⟩
theorem AtG.grown {G : Nat → Prop} {w w' : World} {row : Option Nat} {a : Option Addr} {zs : List Int} (h : AtG G w a zs) (hg : w.grownBy w' row) (hr : ∀ k, row = some k → ¬ G k) : AtG G w' a zs := by
  refine ⟨?_, h.2⟩
  rcases h.2 with h0 | ⟨b, off, rfl, hb⟩
  · exact .inl h0
  · rcases h.1 with h0 | ⟨b', off', e, hc⟩
    · exact .inl h0
    · cases e
      exact .inr ⟨b, off, rfl, fun i hi => hg.cell (hc i hi) (fun e => hr b e.symm hb)⟩
/-- Cells that mean weighted rows. -/
def MeansG (G : Nat → Prop) (w : World) : List Value → List WRow → Prop
  | [], [] => True
  | u :: v :: cs, t :: ts => (∃ a c, u = .slice a t.1.length c ∧ (a = none → c = 0) ∧ AtG G w a t.1) ∧ t.1.length ≤ 9223372036854775807 ∧ v = .int .i64 t.2 ∧ MeansG G w cs ts
  | _, _ => False

theorem MeansG.nil (G : Nat → Prop) (w : World) : MeansG G w [] [] := trivial
theorem MeansG.one {G : Nat → Prop} {w : World} {a : Option Addr} {zs : List Int} {n c : Nat} {x : Int} (hn : zs.length = n) (h6 : n ≤ 9223372036854775807) (hnil : a = none → c = 0) (h : AtG G w a zs) : MeansG G w [.slice a n c, .int .i64 x] [(zs, x)] :=
  ⟨⟨a, c, by rw [hn], hnil, h⟩, by simp only [hn]; exact h6, rfl, trivial⟩

set_option linter.unusedVariables false in
theorem MeansG.length {G : Nat → Prop} {w : World} : ∀ {cs : List Value} {ts : List WRow}, MeansG G w cs ts → cs.length = ts.length * 2
  | [], [], _ => rfl
  | [], _ :: _, h => h.elim
  | [_], [], h => h.elim
  | [_], _ :: _, h => h.elim
  | _ :: _ :: _, [], h => h.elim
  | u :: v :: cs, t :: ts, ⟨_, _, _, h⟩ => by have := MeansG.length h; simp [this]; omega

set_option linter.unusedVariables false in
theorem MeansG.below {G : Nat → Prop} {w w' : World} (hb : Below w.heap.size w w') : ∀ {cs : List Value} {ts : List WRow}, MeansG G w cs ts → MeansG G w' cs ts
  | [], [], _ => trivial
  | [], _ :: _, h => h.elim
  | [_], [], h => h.elim
  | [_], _ :: _, h => h.elim
  | _ :: _ :: _, [], h => h.elim
  | u :: v :: cs, t :: ts, ⟨⟨a, c, h1, h0, h2⟩, h3, h4, h5⟩ => ⟨⟨a, c, h1, h0, h2.below hb⟩, h3, h4, MeansG.below hb h5⟩

set_option linter.unusedVariables false in
theorem MeansG.append {G : Nat → Prop} {w : World} : ∀ {cs cs' : List Value} {ts ts' : List WRow}, MeansG G w cs ts → MeansG G w cs' ts' → MeansG G w (cs ++ cs') (ts ++ ts')
  | [], _, [], _, _, h => h
  | [], _, _ :: _, _, h, _ => h.elim
  | [_], _, [], _, h, _ => h.elim
  | [_], _, _ :: _, _, h, _ => h.elim
  | _ :: _ :: _, _, [], _, h, _ => h.elim
  | u :: v :: cs, cs', t :: ts, ts', ⟨h1, h2, h3, h4⟩, h => ⟨h1, h2, h3, MeansG.append h4 h⟩

set_option linter.unusedVariables false in
theorem MeansG.take {G : Nat → Prop} {w : World} : ∀ {cs : List Value} {ts : List WRow} (k : Nat), MeansG G w cs ts → MeansG G w (cs.take (k * 2)) (ts.take k)
  | [], [], _, _ => by simp [MeansG]
  | [], _ :: _, _, h => h.elim
  | [_], [], _, h => h.elim
  | [_], _ :: _, _, h => h.elim
  | _ :: _ :: _, [], _, h => h.elim
  | u :: v :: cs, t :: ts, 0, _ => by simp [MeansG]
  | u :: v :: cs, t :: ts, k + 1, ⟨h1, h2, h3, h4⟩ => by
    rw [show (k + 1) * 2 = k * 2 + 1 + 1 by omega]
    exact ⟨h1, h2, h3, MeansG.take k h4⟩
set_option linter.unusedVariables false in
theorem MeansG.drop {G : Nat → Prop} {w : World} : ∀ {cs : List Value} {ts : List WRow} (k : Nat), MeansG G w cs ts → MeansG G w (cs.drop (k * 2)) (ts.drop k)
  | [], [], _, _ => by simp [MeansG]
  | [], _ :: _, _, h => h.elim
  | [_], [], _, h => h.elim
  | [_], _ :: _, _, h => h.elim
  | _ :: _ :: _, [], _, h => h.elim
  | u :: v :: cs, t :: ts, 0, h => by simpa using h
  | u :: v :: cs, t :: ts, k + 1, ⟨h1, h2, h3, h4⟩ => by
    rw [show (k + 1) * 2 = k * 2 + 1 + 1 by omega]
    exact MeansG.drop k h4

set_option linter.unusedVariables false in
theorem MeansG.oneCell {G : Nat → Prop} {w : World} : ∀ {cs : List Value} {ts : List WRow}, MeansG G w cs ts → ∀ u ∈ cs, u.oneCell' = true
  | [], [], _, _, h => by cases h
  | [], _ :: _, h, _, _ => h.elim
  | [_], [], h, _, _ => h.elim
  | [_], _ :: _, h, _, _ => h.elim
  | _ :: _ :: _, [], h, _, _ => h.elim
  | u :: v :: cs, t :: ts, ⟨⟨a, c, h1, _, _⟩, _, h4, h5⟩, x, hx => by
    rcases List.mem_cons.1 hx with rfl | hx
    · subst h1; rfl
    · rcases List.mem_cons.1 hx with rfl | hx
      · subst h4; rfl
      · exact MeansG.oneCell h5 x hx

set_option linter.unusedVariables false in
theorem MeansG.means {G : Nat → Prop} {w : World} : ∀ {cs : List Value} {ts : List WRow}, MeansG G w cs ts → Means w cs ts
  | [], [], _ => trivial
  | [], _ :: _, h => h.elim
  | [_], [], h => h.elim
  | [_], _ :: _, h => h.elim
  | _ :: _ :: _, [], h => h.elim
  | u :: v :: cs, t :: ts, ⟨⟨a, c, h1, h0, h2⟩, h3, h4, h5⟩ => ⟨⟨a, c, h1, h0, h2.1⟩, h3, h4, MeansG.means h5⟩
set_option linter.unusedVariables false in
theorem MeansG.mono {G G' : Nat → Prop} {w : World} (hG : ∀ k, k < w.heap.size → G k → G' k) : ∀ {cs : List Value} {ts : List WRow}, MeansG G w cs ts → MeansG G' w cs ts
  | [], [], _ => trivial
  | [], _ :: _, h => h.elim
  | [_], [], h => h.elim
  | [_], _ :: _, h => h.elim
  | _ :: _ :: _, [], h => h.elim
  | u :: v :: cs, t :: ts, ⟨⟨a, c, h1, h0, h2⟩, h3, h4, h5⟩ => ⟨⟨a, c, h1, h0, h2.mono hG⟩, h3, h4, MeansG.mono hG h5⟩
set_option linter.unusedVariables false in
theorem MeansG.grown {G : Nat → Prop} {w w' : World} {row : Option Nat} (hg : w.grownBy w' row) (hr : ∀ k, row = some k → ¬ G k) : ∀ {cs : List Value} {ts : List WRow}, MeansG G w cs ts → MeansG G w' cs ts
  | [], [], _ => trivial
  | [], _ :: _, h => h.elim
  | [_], [], h => h.elim
  | [_], _ :: _, h => h.elim
  | _ :: _ :: _, [], h => h.elim
  | u :: v :: cs, t :: ts, ⟨⟨a, c, h1, h0, h2⟩, h3, h4, h5⟩ => ⟨⟨a, c, h1, h0, h2.grown hg hr⟩, h3, h4, MeansG.grown hg hr h5⟩
theorem MeansG.at {G : Nat → Prop} {w : World} {cs : List Value} {ts : List WRow} (i : Nat) (h : MeansG G w cs ts) (hi : i < ts.length) : ∃ a c, cs[i * 2]? = some (.slice a (wat ts i).1.length c) ∧ cs[i * 2 + 1]? = some (.int .i64 (wat ts i).2) ∧ (wat ts i).1.length ≤ 9223372036854775807 ∧ (a = none → c = 0) ∧ At w a (wat ts i).1 := h.means.at i hi

/-- A slice of weighted rows, all in blocks of G. -/
def AtMG (G : Nat → Prop) (w : World) (a : Option Addr) (ts : List WRow) : Prop :=
  ts = [] ∨ ∃ b off cs, a = some ⟨b, off, none⟩ ∧ G b ∧ MeansG G w cs ts ∧ ∀ j u, cs[j]? = some u → w.cell? ⟨b, off + j, none⟩ = some u
section
variable {G G' : Nat → Prop} {w w' : World} {a : Option Addr} {ts : List WRow}
theorem AtMG.atM (h : AtMG G w a ts) : AtM w a ts := h.imp id fun ⟨b, off, cs, e, _, hm, hc⟩ => ⟨b, off, cs, e, hm.means, hc⟩
theorem AtMG.below (h : AtMG G w a ts) (hb : Below w.heap.size w w') : AtMG G w' a ts := h.imp id fun ⟨b, off, cs, e, hg, hm, hc⟩ => ⟨b, off, cs, e, hg, hm.below hb, fun j u hj => cell_later hb (hc j u hj)⟩
theorem atMG_nil (G : Nat → Prop) (w : World) (a : Option Addr) : AtMG G w a [] := .inl rfl
theorem AtMG.mono (h : AtMG G w a ts) (hG : ∀ k, k < w.heap.size → G k → G' k) : AtMG G' w a ts := by
  rcases h with h | ⟨b, off, cs, e, hg, hm, hc⟩
  · exact .inl h
  · by_cases ht : ts = []
    · exact .inl ht
    · have hl := hm.length
      have hp := List.length_pos_iff.2 ht
      obtain ⟨u, hu⟩ : ∃ u, cs[0]? = some u := ⟨_, List.getElem?_eq_getElem (by omega)⟩
      exact .inr ⟨b, off, cs, e, hG b (World.block_lt_of_cell? _ _ (hc 0 u hu)) hg, hm.mono hG, hc⟩
theorem AtMG.grown {row : Option Nat} (h : AtMG G w a ts) (hg : w.grownBy w' row) (hr : ∀ k, row = some k → ¬ G k) : AtMG G w' a ts := by
  rcases h with h | ⟨b, off, cs, e, hb, hm, hc⟩
  · exact .inl h
  · exact .inr ⟨b, off, cs, e, hb, hm.grown hg hr, fun j u hj => hg.cell (hc j u hj) (fun e => hr b e.symm hb)⟩
theorem atMG_cells {b off : Nat} (h : AtMG G w (some ⟨b, off, none⟩) ts) : ∃ cs, MeansG G w cs ts ∧ ∀ j u, cs[j]? = some u → w.cell? ⟨b, off + j, none⟩ = some u := by
  rcases h with rfl | ⟨b', off', cs, he, _, hm, hc⟩
  · exact ⟨[], trivial, fun j u h => by simp at h⟩
  · simp only [Option.some.injEq, Addr.mk.injEq, and_true] at he
    obtain ⟨rfl, rfl⟩ := he
    exact ⟨cs, hm, hc⟩
theorem MeansG.ownedMG {cs : List Value} {base : Nat} {e : TypeId} {n c : Nat} (h : MeansG G w cs ts) (hn : ts.length = n) (hG : ∀ k, base ≤ k → G k) (ho : w.ownsRow base e 2 (.slice a n c) n cs) : AtMG G w a ts := by
  have hl := h.length
  rcases ho.2 with ⟨h', rfl⟩ | ⟨g, cap, cur, h', hb, _⟩
  · left; exact List.eq_nil_of_length_eq_zero hn
  · simp only [Value.slice.injEq, true_and] at h'
    obtain ⟨rfl, rfl⟩ := h'
    refine .inr ⟨g, 0, cs, rfl, hG g hb, h, fun j u hj => ?_⟩
    have hj' := (List.getElem?_eq_some_iff.1 hj).1
    rw [Nat.zero_add, ho.cellAt j (by omega)]
    exact hj
end

end Go.Proofs.YtlfljfmhhnoinabGreat
