/- Plain facts on slices of slices of ints. -/
import Derived.Test.YtecaaekilbdgdaaGround
namespace Go.Proofs.Ytecaaekilbdgdaa
open Go.RowKit

/-- A slice of slices of ints with the address a holds the lists zss in the world w. -/
def AtS (w : World) (a : Option Addr) (zss : List (List Int)) : Prop :=
  zss = [] ∨ ∃ b off, a = some ⟨b, off, none⟩ ∧ ∀ i, i < zss.length → ∃ a' c', w.cell? ⟨b, off + i, none⟩ = some (.slice a' (zss.getD i []).length c') ∧ (zss.getD i []).length ≤ 9223372036854775807 ∧ At w a' (zss.getD i [])

theorem AtS.below {w w' : World} {a : Option Addr} {zss : List (List Int)} (h : AtS w a zss) (hb : Below w.heap.size w w') : AtS w' a zss := by
  rcases h with h | ⟨b, off, rfl, hc⟩
  · exact .inl h
  · refine .inr ⟨b, off, rfl, fun i hi => ?_⟩
    obtain ⟨a', c', h1, h2, h3⟩ := hc i hi
    exact ⟨a', c', cell_later hb h1, h2, h3.below hb⟩

theorem AtS.some {w : World} {a : Option Addr} {zss : List (List Int)} (h : AtS w a zss) (hp : 0 < zss.length) :
    ∃ b off, a = Option.some ⟨b, off, none⟩ ∧ ∀ i, i < zss.length → ∃ a' c', w.cell? ⟨b, off + i, none⟩ = Option.some (.slice a' (zss.getD i []).length c') ∧ (zss.getD i []).length ≤ 9223372036854775807 ∧ At w a' (zss.getD i []) := by
  rcases h with rfl | h
  · simp at hp
  · exact h

/-- The first k lists: each owned, in blocks that rise. -/
def RowsOwned (w : World) (e : TypeId) (vs : List Value) (zss : List (List Int)) (k : Nat) (L : Nat → Nat) : Prop :=
  ∀ i, i < k → ∃ a c, vs[i]? = some (.slice a (zss.getD i []).length c) ∧ w.ownsRow (L i) e 1 (.slice a (zss.getD i []).length c) (zss.getD i []).length ((zss.getD i []).map (.int .i64)) ∧
    ∀ b, (Value.slice a (zss.getD i []).length c).ownBlock = some b → b < L (i + 1)

/-- A slice of slices that the call itself made: its blocks lie from lo on and below hi. -/
def OwnS (w : World) (lo hi : Nat) (t e : TypeId) (g n : Nat) (zss : List (List Int)) : Prop :=
  ∃ (vs : List Value) (L : Nat → Nat), zss.length = n ∧ vs.length = n ∧ lo ≤ g ∧ g < L 0 ∧ (∀ i, i < n → L i ≤ L (i + 1)) ∧ L n ≤ hi ∧ hi ≤ w.heap.size ∧
    w.heap[g]? = some (.cells vs.toArray t (0, 0)) ∧ RowsOwned w e vs zss n L

theorem mono_le {L : Nat → Nat} {n : Nat} (h : ∀ i, i < n → L i ≤ L (i + 1)) : ∀ i j, i ≤ j → j ≤ n → L i ≤ L j := by
  intro i j hij hj
  induction j with
  | zero => obtain rfl : i = 0 := by omega
            exact Nat.le_refl _
  | succ j ih =>
    by_cases e : i = j + 1
    · subst e; exact Nat.le_refl _
    · exact Nat.le_trans (ih (by omega) (by omega)) (h j (by omega))

theorem RowsOwned.below {w w' : World} {e : TypeId} {vs : List Value} {zss : List (List Int)} {k : Nat} {L : Nat → Nat} (h : RowsOwned w e vs zss k L) (hb : Below w.heap.size w w') : RowsOwned w' e vs zss k L := fun i hi => by
  obtain ⟨a, c, h1, h2, h3⟩ := h i hi
  exact ⟨a, c, h1, owns_below h2 hb, h3⟩

theorem OwnS.below {w w' : World} {lo hi : Nat} {t e : TypeId} {g n : Nat} {zss : List (List Int)} (h : OwnS w lo hi t e g n zss) (hb : Below w.heap.size w w') : OwnS w' lo hi t e g n zss := by
  obtain ⟨vs, L, h1, h2, h3, h4, h5, h6, h7, h8, h9⟩ := h
  exact ⟨vs, L, h1, h2, h3, h4, h5, h6, Nat.le_trans h7 hb.size, (hb.block g (Array.getElem?_eq_some_iff.1 h8).1).trans h8, h9.below hb⟩

theorem OwnS.drew {w : World} {lo hi : Nat} {t e : TypeId} {g n : Nat} {zss : List (List Int)} (h : OwnS w lo hi t e g n zss) : OwnS w.drew lo hi t e g n zss := h.below (Below.refl _ _).drew

theorem OwnS.atS {w : World} {lo hi : Nat} {t e : TypeId} {g n : Nat} {zss : List (List Int)} (h : OwnS w lo hi t e g n zss) (hs : ∀ i, i < zss.length → (zss.getD i []).length ≤ 9223372036854775807) : AtS w (some ⟨g, 0, none⟩) zss := by
  obtain ⟨vs, L, h1, h2, h3, h4, h5, h6, h7, h8, h9⟩ := h
  refine .inr ⟨g, 0, rfl, fun i hi => ?_⟩
  obtain ⟨a, c, k1, k2, k3⟩ := h9 i (by omega)
  refine ⟨a, c, ?_, hs i hi, At.owned k2⟩
  rw [Nat.zero_add, cell_of_row w g i _ t (0, 0) h8]
  simpa using k1

theorem OwnS.kept {w w' : World} {lo hi : Nat} {t e : TypeId} {g n : Nat} {zss : List (List Int)} {row : Option Nat} (h : OwnS w lo hi t e g n zss) (hg : w.grownBy w' row) (hr : ∀ k, row = some k → k < lo ∨ hi ≤ k) : OwnS w' lo hi t e g n zss := by
  obtain ⟨vs, L, h1, h2, h3, h4, h5, h6, h7, h8, h9⟩ := h
  have hm := mono_le h5
  have q0 := hm 0 n (by omega) (Nat.le_refl _)
  refine ⟨vs, L, h1, h2, h3, h4, h5, h6, Nat.le_trans h7 hg.size, ?_, fun i hi => ?_⟩
  · rw [hg.block g (Array.getElem?_eq_some_iff.1 h8).1 (fun e' => by have := hr g e'.symm; omega)]; exact h8
  · obtain ⟨a, c, k1, k2, k3⟩ := h9 i hi
    refine ⟨a, c, k1, k2.kept hg ?_, k3⟩
    cases hv : (Value.slice a (zss.getD i []).length c).ownBlock with
    | none => exact .inl rfl
    | some k =>
      refine .inr (fun e' => ?_)
      have q1 := (k2.lt k hv).1
      have q2 := k3 k hv
      have q3 := hr k e'.symm
      have q4 := hm 0 i (by omega) (by omega)
      have q5 := hm (i + 1) n (by omega) (Nat.le_refl _)
      omega

/-- Outside the blocks lo .. hi - 1 nothing has turned. -/
structure Apart (lo hi : Nat) (w w' : World) : Prop where
  os : w'.os = w.os
  tape : w'.tape = w.tape
  output : w'.output = w.output
  size : w.heap.size ≤ w'.heap.size
  block : ∀ k, k < w.heap.size → (k < lo ∨ hi ≤ k) → w'.heap[k]? = w.heap[k]?

theorem Apart.refl (lo hi : Nat) (w : World) : Apart lo hi w w := ⟨rfl, rfl, rfl, Nat.le_refl _, fun _ _ _ => rfl⟩
theorem Apart.trans {lo hi : Nat} {a b c : World} (h : Apart lo hi a b) (k : Apart lo hi b c) : Apart lo hi a c :=
  ⟨k.os.trans h.os, k.tape.trans h.tape, k.output.trans h.output, Nat.le_trans h.size k.size, fun i hi hn => (k.block i (Nat.lt_of_lt_of_le hi h.size) hn).trans (h.block i hi hn)⟩
theorem Apart.grown {lo hi : Nat} {w w' : World} {row : Option Nat} (h : w.grownBy w' row) (hr : ∀ k, row = some k → lo ≤ k ∧ k < hi) : Apart lo hi w w' :=
  ⟨h.os, h.tape, h.output, h.size, fun k hk hn => h.block k hk (fun e => by have := hr k e.symm; omega)⟩
theorem Apart.below {lo hi B : Nat} {w w' : World} (h : Apart lo hi w w') (hB : B ≤ w.heap.size) (hl : B ≤ lo) : Below B w w' := ⟨h.os, h.tape, h.output, h.size, fun k hk => h.block k (by omega) (.inl (by omega))⟩
theorem Apart.cell {lo hi : Nat} {w w' : World} (h : Apart lo hi w w') {a : Addr} {v : Value} (hc : w.cell? a = some v) (ha : a.block < lo ∨ hi ≤ a.block) : w'.cell? a = some v :=
  (World.cell?_of_block (h.block a.block (World.block_lt_of_cell? _ _ hc) ha)).trans hc
theorem Apart.owns {lo hi : Nat} {w w' : World} (h : Apart lo hi w w') {base : Nat} {e : TypeId} {size : Nat} {v : Value} {n : Nat} {xs : List Value} (ho : w.ownsRow base e size v n xs) (ha : ∀ k, v.ownBlock = some k → k < lo ∨ hi ≤ k) : w'.ownsRow base e size v n xs := by
  refine ⟨ho.1, ?_⟩
  rcases ho.2 with hn | ⟨g, cap, cur, rfl, hb, hg, rest⟩
  · exact .inl hn
  · exact .inr ⟨g, cap, cur, rfl, hb, (h.block g (Array.getElem?_eq_some_iff.1 hg).1 (ha g rfl)).trans hg, rest⟩

/-- What is left of l when s is taken, -1 where it is not enough. -/
def leftOf (l s : Int) : Int := if l < s then -1 else l - s
theorem leftOf_no {l s : Int} (h : l < s) : leftOf l s = -1 := if_pos h
theorem leftOf_yes {l s : Int} (h : ¬ l < s) : leftOf l s = l - s := if_neg h

/-- How many numbers the first k lists hold. -/
def tot (zss : List (List Int)) (k : Nat) : Nat := ((zss.take k).map List.length).sum
theorem tot_zero (zss : List (List Int)) : tot zss 0 = 0 := rfl
theorem tot_succ (zss : List (List Int)) (k : Nat) (h : k < zss.length) : tot zss (k + 1) = tot zss k + (zss.getD k []).length := by
  unfold tot
  rw [List.take_succ_eq_append_getElem h, List.map_append, List.sum_append]
  simp only [List.map_cons, List.map_nil, List.sum_cons, List.sum_nil, Nat.add_zero]
  simp [List.getD, h]
theorem tot_mono (zss : List (List Int)) (j k : Nat) (h : j ≤ k) : tot zss j ≤ tot zss k := by
  obtain ⟨d, rfl⟩ := Nat.le.dest h
  induction d with
  | zero => exact Nat.le_refl _
  | succ d ih =>
    by_cases hk : j + d < zss.length
    · rw [show j + (d + 1) = (j + d) + 1 from rfl, tot_succ zss _ hk]; have := ih (by omega); omega
    · have e1 : tot zss (j + (d + 1)) = tot zss (j + d) := by unfold tot; rw [List.take_of_length_le (by omega), List.take_of_length_le (by omega)]
      rw [e1]; exact ih (by omega)

end Go.Proofs.Ytecaaekilbdgdaa
