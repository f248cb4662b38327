/- Rows of a list of dependencies that a call owns; plain facts for the model's CoverOf. -/
import Derived.Test.YtkcfhlpdenjimaaDoorM12
namespace Go.Proofs.YtkcfhlpdenjimaaDoor
open Go.RowKit

section
variable {w w' : World} {lo hi : Nat} {r : Option Addr} {m d i g : Nat} {xs : List Dep} {cells : List Value} {G : Nat → Nat → Prop} {x : Dep} {F : Nat → Prop}
theorem laid_atD (h : Laid RDep w F 43 r m d xs cells G m) : AtD w r xs := h.atSl
theorem laid_base (h : Laid RDep w (From lo hi) 43 r m d xs cells G m) : w.ownsRow lo 43 2 (.slice r m d) m cells := owns_base h.outer (fun b hb => (h.outerF b hb).1)
theorem laid_some (h : Laid RDep w F 43 r m d xs cells G m) (h0 : 0 < m) : ∃ g, r = some ⟨g, 0, none⟩ ∧ g < w.heap.size ∧ F g ∧ m ≤ d := by
  have hF := h.outerF
  have hl := h.outer.lt
  have hc := own_cap h.outer
  rcases h.outer.2 with ⟨_, h1⟩ | ⟨g, cap, cur, hv, _⟩
  · omega
  · simp only [Value.slice.injEq, true_and] at hv
    obtain ⟨rfl, rfl⟩ := hv
    exact ⟨g, rfl, (hl g rfl).2, hF g rfl, hc⟩
theorem laid_row (h : Laid RDep w F 43 (some ⟨g, 0, none⟩) m d xs cells G m) (hx : xs[i]? = some x) : ∃ fa fn fc ta tn tc, sub cells (i * 2) 2 = [.slice fa fn fc, .slice ta tn tc] ∧
    w.cell? ⟨g, i * 2, none⟩ = some (.slice fa fn fc) ∧ w.cell? ⟨g, i * 2 + 1, none⟩ = some (.slice ta tn tc) ∧ RDep.Own w (G i) [.slice fa fn fc, .slice ta tn tc] x := by
  have hi : i < m := by rw [← h.len]; exact (List.getElem?_eq_some_iff.1 hx).1
  have hA := h.row i x hi hx
  obtain ⟨fa, fn, fc, ta, tn, tc, F1, F2, e, h1, h2, f1, f2, d12⟩ := RDep.own_open hA
  have e' : sub cells (i * 2) 2 = [.slice fa fn fc, .slice ta tn tc] := e
  rw [e] at hA
  have s0 := sub_at (cells := cells) (o := i * 2) (k := 2) (j := 0) (by omega)
  have s1 := sub_at (cells := cells) (o := i * 2) (k := 2) (j := 1) (by omega)
  rw [e'] at s0 s1
  exact ⟨fa, fn, fc, ta, tn, tc, e', (h.outer.cellAt _ (by show i * 2 < m * 2; omega)).trans s0.symm, (h.outer.cellAt _ (by show i * 2 + 1 < m * 2; omega)).trans s1.symm, hA⟩
end

theorem und_at {M : List (Nat × Nat)} {i : Nat} {p : Nat × Nat} (h : M[i]? = some p) : (M.map und)[i]? = some (bl p.1, bl p.2) := by rw [List.getElem?_map, h]; rfl
theorem mem_step {M : List (Nat × Nat)} {i : Nat} {p z : Nat × Nat} (h : M[i]? = some p) : decide (z ∈ M.take (i + 1)) = (decide (z ∈ M.take i) || decide (z = p)) := by
  obtain ⟨hi, rfl⟩ := List.getElem?_eq_some_iff.1 h
  rw [Bool.eq_iff_iff]
  simp only [Bool.or_eq_true, decide_eq_true_eq]
  rw [List.take_succ_eq_append_getElem hi]
  simp only [List.mem_append, List.mem_singleton]
theorem pair_ne {F p1 c : Nat} {y : Int} (hy : 0 ≤ y) (h : ¬ (c : Int) = y) : decide ((F, 2 ^ y.toNat) = (p1, 2 ^ c)) = false := by
  refine decide_eq_false fun e => ?_
  simp only [Prod.mk.injEq] at e
  have := (Nat.pow_right_inj (by decide : 1 < 2)).1 e.2
  omega
theorem pair_eq {F p1 c : Nat} {y : Int} (h : (c : Int) = y) : decide ((F, 2 ^ y.toNat) = (p1, 2 ^ c)) = decide (p1 = F) := by
  have : y.toNat = c := by omega
  rw [this]
  by_cases e : p1 = F
  · subst e; simp
  · rw [decide_eq_false e]; exact decide_eq_false fun e' => e (by simp at e'; exact e'.symm)

/-- Whether z stands among the first t. -/
def seenT (z : Nat × Nat) (M : List (Nat × Nat)) (t : Nat) : Bool := decide (z ∈ M.take t)
theorem seenT_zero (z : Nat × Nat) (M : List (Nat × Nat)) : seenT z M 0 = false := by simp [seenT]
theorem seenT_all {z : Nat × Nat} {M : List (Nat × Nat)} {m : Nat} (h : M.length = m) : seenT z M m = decide (z ∈ M) := by unfold seenT; rw [List.take_of_length_le (by omega)]
theorem seenT_ne {M : List (Nat × Nat)} {t F p1 c : Nat} {y : Int} (h : M[t]? = some (p1, 2 ^ c)) (hy : 0 ≤ y) (hc : ¬ (c : Int) = y) : seenT (F, 2 ^ y.toNat) M (t + 1) = seenT (F, 2 ^ y.toNat) M t := by
  unfold seenT; rw [mem_step h, pair_ne hy hc, Bool.or_false]
theorem seenT_eq {M : List (Nat × Nat)} {t F p1 c : Nat} {y : Int} (h : M[t]? = some (p1, 2 ^ c)) (hc : (c : Int) = y) (hs : seenT (F, 2 ^ y.toNat) M t = false) : seenT (F, 2 ^ y.toNat) M (t + 1) = decide (p1 = F) := by
  unfold seenT at hs ⊢; rw [mem_step h, hs, pair_eq hc, Bool.false_or]
theorem seenT_yes {z : Nat × Nat} {M : List (Nat × Nat)} {t : Nat} {p : Nat × Nat} (h : M[t]? = some p) (hs : seenT z M t = true) : seenT z M (t + 1) = true := by
  unfold seenT at hs ⊢; rw [mem_step h, hs, Bool.true_or]
theorem same_bl {a b n n' : Nat} {ys : List Int} (ha : a < 64) (hb : b < 64) (hn : (bl a).length = n) (hy : bl b = ys) (hn' : ys.length = n') : (decide (n = n') && ys.all fun k => decide (k ∈ bl a)) = decide (a = b) := by
  subst hy hn hn'
  exact same_bl_all a ha b hb
theorem owns_one (w : World) (e : TypeId) (v : Value) : (w.alloc (.cells #[v] e)).ownsRow w.heap.size e 1 (.slice (some ⟨w.heap.size, 0, none⟩) 1 1) 1 [v] :=
  ⟨by simp, .inr ⟨w.heap.size, 1, #[v], rfl, Nat.le_refl _, heap_alloc_new w _, by omega, by unfold maxLen; omega, by simp, by simp⟩⟩

theorem sub_set0 {cells : List Value} {o : Nat} {a b v : Value} (h : sub cells o 2 = [a, b]) : sub (cells.set o v) o 2 = [v, b] := by
  have h0 := sub_at (cells := cells) (o := o) (k := 2) (j := 0) (by omega)
  have h1 := sub_at (cells := cells) (o := o) (k := 2) (j := 1) (by omega)
  rw [h] at h0 h1
  have hlt := (List.getElem?_eq_some_iff.1 h0.symm).1
  apply List.ext_getElem?
  intro j
  match j with
  | 0 => rw [sub_at (by omega), Nat.add_zero, List.getElem?_set_self (by simpa using hlt)]; rfl
  | 1 => rw [sub_at (by omega), List.getElem?_set_ne (by omega), ← h1]; rfl
  | j + 2 => rw [List.getElem?_eq_none (by simp [sub]; omega)]; rfl
theorem dep_to {w : World} {F : Nat → Prop} {fa : Option Addr} {fn fc : Nat} {ta : Option Addr} {tn tc : Nat} {x : Dep} (h : RDep.Own w F [.slice fa fn fc, .slice ta tn tc] x) : RInts.At w [.slice ta tn tc] x.2 := by
  obtain ⟨fa', fn', fc', ta', tn', tc', F1, F2, e, h1, h2, f1, f2, d12⟩ := RDep.own_open h
  simp only [List.cons.injEq, Value.slice.injEq, and_true] at e
  obtain ⟨⟨rfl, rfl, rfl⟩, rfl, rfl, rfl⟩ := e
  exact RInts.toAt h2
/-- out[k].From = less. -/
theorem laid_turnF {w : World} {lo Q g m d k f t E m3 d3 : Nat} {M : List (Nat × Nat)} {cells : List Value} {G : Nat → Nat → Prop} {r3 : Option Addr} (h : Laid RDep w (From lo Q) 43 (some ⟨g, 0, none⟩) m d (M.map und) cells G m) (hp : M[k]? = some (f, t)) (hlo : lo ≤ Q) (hQ : Q ≤ w.heap.size)
    (hless : w.ownsRow Q 3 1 (.slice r3 m3 d3) m3 ((bl E).map (.int .i64))) (hl : (bl E).length = m3) :
    ∃ cells' G', Laid RDep (w.setCell ⟨g, k * 2, none⟩ (.slice r3 m3 d3)) (From lo w.heap.size) 43 (some ⟨g, 0, none⟩) m d ((M.set k (E, t)).map und) cells' G' m := by
  have hk : k < m := by rw [← h.len, List.length_map]; exact (List.getElem?_eq_some_iff.1 hp).1
  obtain ⟨fa, fn, fc, ta, tn, tc, hsub, c0, c1, hown⟩ := laid_row h (und_at hp)
  obtain ⟨fa', fn', fc', ta', tn', tc', F1, F2, e1, h1, h2, f1, f2, d12⟩ := RDep.own_open hown
  simp only [List.cons.injEq, Value.slice.injEq, and_true] at e1
  obtain ⟨⟨rfl, rfl, rfl⟩, rfl, rfl, rfl⟩ := e1
  have hG : ∀ b, G k b → From lo Q b ∧ b ≠ g := fun b hb => ⟨(h.rowF k b hk hb).1, fun e => (h.rowF k b hk hb).2 (by rw [e]; rfl)⟩
  have hm3 := bl_len E
  have hnew : RDep.Own w (fun b => F2 b ∨ From Q w.heap.size b) [.slice r3 m3 d3, .slice ta tn tc] (bl E, bl t) :=
    RDep.own_mk (RInts.of_owns hl (by omega) hless) h2 (fun b h => .inr h) (fun b h => .inl h) (fun b k1 k2 => by have h8 := (hG b (f2 b k2)).1.2; have h9 := k1.1; omega)
  have hgQ : From lo Q g := h.outerF g rfl
  have hst := (h.outer.stored (k * 2) (.slice r3 m3 d3)).1
  refine ⟨cells.set (k * 2) (.slice r3 m3 d3), (fun j => if j = k then (fun b => F2 b ∨ From Q w.heap.size b) else G j), ?_⟩
  rw [und_set]
  refine Laid.swap (H := fun b => F2 b ∨ From Q w.heap.size b) (F' := From lo w.heap.size) h hk (fun b hb hn => Below.heap_setCell w _ _ b (fun e => hn (by rw [e]; rfl))) hst (fun j hj => ?_) ?_ (fun b hb => ?_) (fun j b hj hjm hb hn => ?_) (fun b hb => ⟨hb.1, by have := hb.2; omega⟩)
  · exact sub_sets_far cells (k * 2) [.slice r3 m3 d3] (j * 2) 2 (by simp; omega)
  · show RDep.Own _ _ (sub (cells.set (k * 2) (.slice r3 m3 d3)) (k * 2) 2) (bl E, bl t)
    rw [sub_set0 hsub]
    refine RDep.frame hnew (fun b hb hl => Below.heap_setCell w _ _ b (fun e => ?_))
    simp only at e
    rcases hb with hb | hb
    · exact (hG b (f2 b hb)).2 e
    · have h8 := hb.1; have h9 := hgQ.2; omega
  · rcases hb with hb | hb
    · have h9 := hG b (f2 b hb)
      exact ⟨⟨h9.1.1, by have := h9.1.2; omega⟩, fun e => h9.2 (by simp [Value.ownBlock] at e; exact e.symm)⟩
    · exact ⟨⟨by have := hb.1; omega, hb.2⟩, fun e => by simp [Value.ownBlock] at e; have h8 := hb.1; have h9 := hgQ.2; omega⟩
  · rcases hn with hn | hn
    · exact h.apart j k b hjm hk hj hb (f2 b hn)
    · have h8 := hn.1; have h9 := (h.rowF j b hjm hb).1.2; omega

/-- The first s of l but y. -/
def lessf (y : Int) (l : List Int) (s : Nat) : List Int := (l.take s).filter (fun z => decide (z ≠ y))
theorem lessf_zero (y : Int) (l : List Int) : lessf y l 0 = [] := by simp [lessf]
theorem lessf_len (y : Int) (l : List Int) (s : Nat) : (lessf y l s).length ≤ l.length := by
  unfold lessf
  refine Nat.le_trans (List.length_filter_le _ _) ?_
  rw [List.length_take]; omega
theorem lessf_yes {y : Int} {l : List Int} {s : Nat} (h : s < l.length) (hv : ¬ l.getD s 0 = y) : lessf y l (s + 1) = lessf y l s ++ [l.getD s 0] := by
  unfold lessf
  rw [take_succ_getD l s h, List.filter_append]
  congr 1
  rw [List.filter_cons, decide_eq_true hv, if_pos rfl]; rfl
theorem lessf_no {y : Int} {l : List Int} {s : Nat} (h : s < l.length) (hv : l.getD s 0 = y) : lessf y l (s + 1) = lessf y l s := by
  unfold lessf
  rw [take_succ_getD l s h, List.filter_append, hv]
  simp
theorem lessf_all {y : Int} {f s : Nat} (hf : f < 64) (h0 : 0 ≤ y) (h6 : y < 6) (hs : (bl f).length = s) : lessf y (bl f) s = bl (wo f y) := by
  unfold lessf wo
  rw [List.take_of_length_le (by omega), ← filter_bl_all f hf y.toNat (by omega), show ((y.toNat : Nat) : Int) = y by omega]

theorem laid_ones {w : World} {F : Nat → Prop} {g m d : Nat} {xs : List Dep} {cells : List Value} {G : Nat → Nat → Prop} (h : Laid RDep w F 43 (some ⟨g, 0, none⟩) m d xs cells G m) : ∀ u ∈ cells, u.oneCell' = true := by
  intro u hu
  obtain ⟨i, hi, rfl⟩ := List.getElem_of_mem hu
  have hc : cells.length = m * 2 := h.outer.1
  have hl := h.len
  obtain ⟨x, hx⟩ : ∃ x, xs[i / 2]? = some x := ⟨_, List.getElem?_eq_getElem (by omega)⟩
  obtain ⟨fa, fn, fc, ta, tn, tc, hsub, _⟩ := laid_row h hx
  have h9 := sub_at (cells := cells) (o := i / 2 * 2) (k := 2) (j := i % 2) (by omega)
  rw [hsub, show i / 2 * 2 + i % 2 = i by omega, List.getElem?_eq_getElem hi] at h9
  rcases (show i % 2 = 0 ∨ i % 2 = 1 by omega) with e | e
  · rw [e] at h9
    have h8 : some (Value.slice fa fn fc) = some cells[i] := h9
    rw [← Option.some.inj h8]; rfl
  · rw [e] at h9
    have h8 : some (Value.slice ta tn tc) = some cells[i] := h9
    rw [← Option.some.inj h8]; rfl
theorem laid_cells {w : World} {F : Nat → Prop} {g m d : Nat} {xs : List Dep} {cells : List Value} {G : Nat → Nat → Prop} (h : Laid RDep w F 43 (some ⟨g, 0, none⟩) m d xs cells G m) : ∀ (j : Nat) (u : Value), cells[j]? = some u → w.cell? ⟨g, j, none⟩ = some u := fun j u hj => by
  have hc : cells.length = m * 2 := h.outer.1
  have := (List.getElem?_eq_some_iff.1 hj).1
  exact (h.outer.cellAt j (by show j < m * 2; omega)).trans hj
/-- It without row k, made anew. -/
theorem laid_wo {w w' : World} {lo g m d k d6 : Nat} {M : List (Nat × Nat)} {cells : List Value} {G : Nat → Nat → Prop} {r6 : Option Addr} {s : Nat} (h : Laid RDep w (From lo w.heap.size) 43 (some ⟨g, 0, none⟩) m d (M.map und) cells G m) (hk : k < m) (hlo : lo ≤ w.heap.size) (hb : Below w.heap.size w w')
    (ho : w'.ownsRow w.heap.size 43 2 (.slice r6 s d6) s (cells.take (k * 2) ++ cells.drop ((k + 1) * 2))) (hs : s = m - 1) :
    ∃ cells' G', Laid RDep w' (From lo w'.heap.size) 43 r6 s d6 ((M.eraseIdx k).map und) cells' G' s := by
  subst hs
  refine ⟨cells.take (k * 2) ++ cells.drop ((k + 1) * 2), fun j => G (if j < k then j else j + 1), ?_⟩
  rw [und_erase]
  exact Laid.erase (F' := From lo w'.heap.size) h hk (fun b _ hl => hb.block b hl) (owns_mono ho (Nat.zero_le _)) (fun b hF => ⟨hF.1, by have h1 := hF.2; have h2 := hb.size; omega⟩) (fun b e => ⟨by have := (ho.lt b e).1; omega, (ho.lt b e).2⟩) (fun b e hF => by have h1 := (ho.lt b e).1; have h2 := hF.2; omega)

end Go.Proofs.YtkcfhlpdenjimaaDoor
