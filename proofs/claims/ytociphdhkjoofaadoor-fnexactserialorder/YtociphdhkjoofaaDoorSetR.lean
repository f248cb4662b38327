/- Rows of sets of numbers that a call makes: a list of lists, of which one is put anew. -/
import Derived.Test.YtociphdhkjoofaaDoorPutF
import Derived.Test.YtociphdhkjoofaaDoorBlk
import Derived.Test.YtociphdhkjoofaaDoorKrR
namespace Go.Proofs.YtociphdhkjoofaaDoor
open Go.RowKit

def RowsN (w : World) (g lo : Nat) (cs : List Nat) : Prop :=
  ∃ cells : List Value, cells.length = cs.length ∧ w.heap[g]? = some (.cells cells.toArray 34 (0, 0)) ∧
    (∀ t v, cells[t]? = some v → ∃ r m d, v = .slice r m d ∧ (bl (cs.getD t 0)).length = m ∧ w.ownsRow lo 3 1 (.slice r m d) m ((bl (cs.getD t 0)).map (.int .i64))) ∧
    (∀ (i j : Nat) (u v : Value) (b : Nat), i ≠ j → cells[i]? = some u → cells[j]? = some v → u.ownBlock = some b → v.ownBlock ≠ some b)
theorem RowsN.below {w w' : World} {g lo : Nat} {cs : List Nat} (h : RowsN w g lo cs) (hb : Below w.heap.size w w') : RowsN w' g lo cs := by
  obtain ⟨cells, h1, h2, h3, h4⟩ := h
  refine ⟨cells, h1, blk_below h2 hb, fun t v ht => ?_, h4⟩
  obtain ⟨r, m, d, e, hl, ho⟩ := h3 t v ht
  exact ⟨r, m, d, e, hl, owns_below ho hb⟩
theorem RowsN.new {w : World} {g lo n : Nat} (h : w.heap[g]? = some (.cells (List.replicate n (Value.slice none 0 0)).toArray 34 (0, 0))) : RowsN w g lo (List.replicate n 0) := by
  refine ⟨_, by simp, h, fun t v ht => ?_, fun i j u v b _ hu _ hb => ?_⟩
  · obtain ⟨_, rfl⟩ := List.getElem?_eq_some_iff.1 ht
    have e : (List.replicate n 0).getD t 0 = 0 := by
      rw [List.getD_eq_getElem?_getD, List.getElem?_replicate]; split <;> rfl
    refine ⟨none, 0, 0, by simp, ?_, ?_⟩
    · rw [e]; decide
    · rw [e, show bl 0 = [] by decide]; exact World.ownsRow_nil _ _ _ _
  · obtain ⟨_, rfl⟩ := List.getElem?_eq_some_iff.1 hu
    simp [Value.ownBlock] at hb
theorem RowsN.cell {w : World} {g lo : Nat} {cs : List Nat} (h : RowsN w g lo cs) {t : Nat} (ht : t < cs.length) : ∃ r m d, w.cell? ⟨g, t, none⟩ = some (.slice r m d) ∧ w.frozen? ⟨g, t, none⟩ = false ∧ (bl (cs.getD t 0)).length = m ∧ w.ownsRow lo 3 1 (.slice r m d) m ((bl (cs.getD t 0)).map (.int .i64)) := by
  obtain ⟨cells, h1, h2, h3, h4⟩ := h
  obtain ⟨v, hv⟩ : ∃ v, cells[t]? = some v := ⟨_, List.getElem?_eq_getElem (by omega)⟩
  obtain ⟨r, m, d, rfl, hl, ho⟩ := h3 t v hv
  exact ⟨r, m, d, blk_cell h2 t (by simpa using hv), blk_frozen h2 t, hl, ho⟩
theorem RowsN.turn {w w1 : World} {g lo : Nat} {cs : List Nat} (h : RowsN w g lo cs) (hgl : g < lo) (hlo : lo ≤ w.heap.size) (hb : Below w.heap.size w w1) {t : Nat} (ht : t < cs.length) {S : Nat} {r : Option Addr} {m d : Nat} {r' : Option Addr} {m' d' : Nat}
    (hc : w.cell? ⟨g, t, none⟩ = some (.slice r m d)) (hl : (bl S).length = m') (ho : (Value.slice r' m' d' = .slice r m d ∧ bl S = bl (cs.getD t 0)) ∨ w1.ownsRow w.heap.size 3 1 (.slice r' m' d') m' ((bl S).map (.int .i64))) :
    RowsN (w1.setCell ⟨g, t, none⟩ (.slice r' m' d')) g lo (cs.set t S) := by
  obtain ⟨cells, h1, h2, h3, h4⟩ := h
  obtain ⟨v, hv⟩ : ∃ v, cells[t]? = some v := ⟨_, List.getElem?_eq_getElem (by omega)⟩
  have hv2 : v = .slice r m d := by
    have h9 := blk_cell h2 t (v := v) (by simpa using hv)
    rw [hc] at h9
    exact (Option.some.inj h9).symm
  obtain ⟨r0, m0, d0, e0, hl0, ho0⟩ := h3 t v hv
  rw [hv2] at e0
  simp only [Value.slice.injEq] at e0
  obtain ⟨rfl, rfl, rfl⟩ := e0
  have hset : ∀ {a n c ys}, w1.ownsRow lo 3 1 (.slice a n c) n ys → (w1.setCell ⟨g, t, none⟩ (.slice r' m' d')).ownsRow lo 3 1 (.slice a n c) n ys := fun {a n c ys} h9 =>
    ownsRow_frame h9 (fun b hb9 _ => Below.heap_setCell _ _ _ b (by have := (h9.lt b hb9).1; simp; omega))
  have hgetS : (cs.set t S).getD t 0 = S := by rw [List.getD_eq_getElem?_getD, List.getElem?_set_self ht]; rfl
  have hgetO : ∀ j, j ≠ t → (cs.set t S).getD j 0 = cs.getD j 0 := fun j hj => by rw [List.getD_eq_getElem?_getD, List.getElem?_set_ne (fun e => hj e.symm), ← List.getD_eq_getElem?_getD]
  have hown : w1.ownsRow lo 3 1 (.slice r' m' d') m' ((bl S).map (.int .i64)) := by
    rcases ho with ⟨e, e2⟩ | ho
    · simp only [Value.slice.injEq] at e
      obtain ⟨rfl, rfl, rfl⟩ := e
      rw [e2]; exact owns_below ho0 hb
    · exact owns_mono ho hlo
  have hblk : ∀ b, (Value.slice r' m' d').ownBlock = some b → v.ownBlock = some b ∨ w.heap.size ≤ b := fun b hb9 => by
    rcases ho with ⟨e, _⟩ | ho
    · rw [e] at hb9; exact .inl (by rw [hv2]; exact hb9)
    · exact .inr (ho.lt b hb9).1
  have hold : ∀ (j : Nat) (u : Value) (b : Nat), cells[j]? = some u → u.ownBlock = some b → b < w.heap.size := fun j u b hu hb9 => by
    obtain ⟨r9, m9, d9, rfl, _, h9⟩ := h3 j u hu
    exact (h9.lt b hb9).2
  refine ⟨cells.set t (.slice r' m' d'), by simp [h1], ?_, fun j u hu => ?_, fun i j u u' b hij hu hu' hub => ?_⟩
  · rw [blk_set (blk_below h2 hb) t _]; simp
  · by_cases hj : j = t
    · subst hj
      rw [List.getElem?_set_self (by omega)] at hu
      obtain rfl := Option.some.inj hu
      exact ⟨r', m', d', rfl, by rw [hgetS]; exact hl, by rw [hgetS]; exact hset hown⟩
    · rw [List.getElem?_set_ne (fun e => hj e.symm)] at hu
      obtain ⟨r9, m9, d9, rfl, hl9, h9⟩ := h3 j u hu
      exact ⟨r9, m9, d9, rfl, by rw [hgetO j hj]; exact hl9, by rw [hgetO j hj]; exact hset (owns_below h9 hb)⟩
  · by_cases hi : i = t
    · subst hi
      rw [List.getElem?_set_self (by omega)] at hu
      obtain rfl := Option.some.inj hu
      rw [List.getElem?_set_ne hij] at hu'
      rcases hblk b hub with h9 | h9
      · exact h4 i j v u' b hij hv hu' h9
      · intro e
        have := hold j u' b hu' e
        omega
    · rw [List.getElem?_set_ne (fun e => hi e.symm)] at hu
      by_cases hj : j = t
      · subst hj
        rw [List.getElem?_set_self (by omega)] at hu'
        obtain rfl := Option.some.inj hu'
        intro e
        rcases hblk b e with h9 | h9
        · exact h4 i j u v b hij hu hv hub h9
        · have := hold i u b hu hub
          omega
      · rw [List.getElem?_set_ne (fun e => hj e.symm)] at hu'
        exact h4 i j u u' b hij hu hu' hub
theorem RowsN.own {w : World} {g lo lo0 n : Nat} {cs : List Nat} (h : RowsN w g lo cs) (hgl : g < lo) (hg0 : lo0 ≤ g) (hn : cs.length = n) (hb : n ≤ 1048576) : RPairs.Own w (From lo0 w.heap.size) [.slice (some ⟨g, 0, none⟩) n n] (cs.map bl) := by
  obtain ⟨cells, h1, h2, h3, h4⟩ := h
  have hgw : g < w.heap.size := (Array.getElem?_eq_some_iff.1 h2).1
  refine ⟨some ⟨g, 0, none⟩, n, n, cells, fun i b => ∃ v, cells[i]? = some v ∧ v.ownBlock = some b, rfl, by simp [hn], by omega, ?_, fun b hb9 => ?_, fun i x hi hx => ?_, fun i b hi hG => ?_, fun i j b hi hj hij hG hG' => ?_⟩
  · exact ⟨by simp [RInts, Rep.slice]; omega, .inr ⟨g, n, cells.toArray, rfl, Nat.zero_le _, h2, Nat.le_refl _, by unfold maxLen; omega, by simp [RInts, Rep.slice]; omega, by rw [List.take_of_length_le]; simp [RInts, Rep.slice]; omega⟩⟩
  · simp only [Value.ownBlock, Option.some.injEq] at hb9
    subst hb9
    exact ⟨hg0, hgw⟩
  · obtain ⟨v, hv⟩ : ∃ v, cells[i]? = some v := ⟨_, List.getElem?_eq_getElem (by omega)⟩
    obtain ⟨r, m, d, rfl, hl, ho⟩ := h3 i v hv
    have hs : sub cells (i * 1) 1 = [.slice r m d] := by
      apply List.ext_getElem?
      intro j
      by_cases hj : j < 1
      · rw [sub_at hj]
        obtain rfl : j = 0 := by omega
        simpa using hv
      · rw [List.getElem?_eq_none (by simp [sub]; omega), List.getElem?_eq_none (by simp; omega)]
    have hxe : x = bl (cs.getD i 0) := by
      rw [List.getElem?_map] at hx
      obtain ⟨c, hc, rfl⟩ := Option.map_eq_some_iff.1 hx
      rw [List.getD_eq_getElem?_getD, hc]; rfl
    show RInts.Own w _ (sub cells (i * 1) 1) x
    rw [hs, hxe]
    exact RInts.own_iff.2 ⟨hl, by have := bl_len (cs.getD i 0); omega, owns_mono ho (Nat.zero_le _), fun b hb9 => ⟨_, hv, hb9⟩⟩
  · obtain ⟨v, hv, hb9⟩ := hG
    obtain ⟨r, m, d, rfl, hl, ho⟩ := h3 i v hv
    have := ho.lt b hb9
    exact ⟨⟨by omega, this.2⟩, fun e => by simp only [Value.ownBlock, Option.some.injEq] at e; omega⟩
  · obtain ⟨v, hv, hb9⟩ := hG
    obtain ⟨u, hu, hb8⟩ := hG'
    exact h4 i j v u b hij hv hu hb9 hb8

end Go.Proofs.YtociphdhkjoofaaDoor
