/- One more weighted row at a slice's end: what is owned behind 'append(rows, row)'. -/
import Derived.Test.YtpnaoahlfhbbmaaGroundT
namespace Go.Proofs.Ytpnaoahlfhbbmaa
open Go.RowKit

theorem wat_left {ts ts' : List WRow} {i : Nat} (h : i < ts.length) : wat (ts ++ ts') i = wat ts i := by simp [wat, List.getD, List.getElem?_append_left h]
theorem wat_last (ts : List WRow) (t : WRow) : wat (ts ++ [t]) ts.length = t := by simp [wat, List.getD]

theorem OwnWk.pushed {w w2 w4 : World} {lo hi : Nat} {te ti : TypeId} {a a' : Option Addr} {n c m c' g cap : Nat} {ts : List WRow} {cells : List Value} {zs : List Int} {x : Int} {o : Obj} (h : OwnW w lo hi te ti a n c ts cells) (hlo : lo ≤ w.heap.size) (hb : Below w.heap.size w w2)
    (hm : zs.length = m) (hrow : w2.ownsRow w.heap.size ti 1 (.slice a' m c') m (zs.map (.int .i64)))
    (hown : w4.ownsRow lo te 2 (.slice (some ⟨g, 0, none⟩) (n + 1) cap) (n + 1) (cells ++ [.slice a' m c', .int .i64 x])) (hgr : (w2.alloc o).grownBy w4 (Value.slice a n c).ownBlock)
    (hat : (Value.slice a n c).ownBlock = some g ∨ g = w2.heap.size + 1) (hlt : g < w4.heap.size) :
    OwnW w4 lo w4.heap.size te ti (some ⟨g, 0, none⟩) (n + 1) cap (ts ++ [(zs, x)]) (cells ++ [.slice a' m c', .int .i64 x]) := by
  have hz := h.len
  have hl := h.outer.1
  have hz2 := hb.size
  have htop := h.top
  have hsz4 : w2.heap.size + 1 ≤ w4.heap.size := by have := hgr.size; simpa using this
  have hout : ∀ b, (Value.slice a n c).ownBlock = some b → b < w.heap.size := fun b hb' => Nat.lt_of_lt_of_le (h.outerLt b hb') htop
  have hL : ∀ i, i < n → (cells ++ [.slice a' m c', .int .i64 x])[i * 2]? = cells[i * 2]? ∧ (cells ++ [.slice a' m c', .int .i64 x])[i * 2 + 1]? = cells[i * 2 + 1]? := fun i hi =>
    ⟨List.getElem?_append_left (by omega), List.getElem?_append_left (by omega)⟩
  have hN0 : (cells ++ [.slice a' m c', .int .i64 x])[n * 2]? = some (.slice a' m c') := by
    rw [List.getElem?_append_right (by omega), show n * 2 - cells.length = 0 by omega]; rfl
  have hN1 : (cells ++ [.slice a' m c', .int .i64 x])[n * 2 + 1]? = some (.int .i64 x) := by
    rw [List.getElem?_append_right (by omega), show n * 2 + 1 - cells.length = 1 by omega]; rfl
  have hblk : ∀ i, i < n → blkW (cells ++ [.slice a' m c', .int .i64 x]) i = blkW cells i := fun i hi => by simp only [blkW, List.getD, (hL i hi).1]
  have hblkN : blkW (cells ++ [.slice a' m c', .int .i64 x]) n = (Value.slice a' m c').ownBlock := blkW_of hN0
  have hnew : ∀ b, (Value.slice a' m c').ownBlock = some b → w.heap.size ≤ b ∧ b < w2.heap.size := fun b hb' => hrow.lt b hb'
  have hold : ∀ i, i < n → ∀ b, blkW cells i = some b → b < w.heap.size := fun i hi b hb' => Nat.lt_of_lt_of_le (h.rowLt i hi b hb').1 htop
  refine ⟨by simp [hz], Nat.le_refl _, hown, fun b hb' => by simp [Value.ownBlock] at hb'; omega, fun i hi => ?_, fun i hi b hb' => ?_, fun i j hi hj hij b hb' => ?_⟩
  · by_cases e : i = n
    · subst e
      rw [show wat (ts ++ [(zs, x)]) i = (zs, x) by rw [← hz]; exact wat_last ts _]
      refine ⟨a', c', by rw [hN0, hm], hN1, ?_⟩
      simp only [hm]
      refine owns_mono ((hrow.alloc o).kept hgr ?_) hlo
      cases hv : (Value.slice a' m c').ownBlock with
      | none => exact .inl rfl
      | some k => exact .inr (fun e' => by have := hnew k hv; have := hout k e'.symm; omega)
    · have hi' : i < n := by omega
      obtain ⟨a1, c1, k1, k2, k3⟩ := h.row i hi'
      rw [wat_left (by omega)]
      refine ⟨a1, c1, by rw [(hL i hi').1]; exact k1, by rw [(hL i hi').2]; exact k2, ((owns_below k3 hb).alloc o).kept hgr ?_⟩
      cases hv : (Value.slice a1 (wat ts i).1.length c1).ownBlock with
      | none => exact .inl rfl
      | some k => exact .inr (fun e' => (h.rowLt i hi' k (by rw [blkW_of k1]; exact hv)).2 e'.symm)
  · by_cases e : i = n
    · subst e
      rw [hblkN] at hb'
      have := hnew b hb'
      refine ⟨by omega, fun e' => ?_⟩
      have hgb : g = b := by simpa [Value.ownBlock] using e'
      rcases hat with h' | h'
      · have := hout g h'; omega
      · omega
    · have hi' : i < n := by omega
      rw [hblk i hi'] at hb'
      have := hold i hi' b hb'
      refine ⟨by omega, fun e' => ?_⟩
      have hgb : g = b := by simpa [Value.ownBlock] using e'
      rcases hat with h' | h'
      · exact (h.rowLt i hi' b hb').2 (by rw [h', hgb])
      · omega
  · by_cases ei : i = n
    · subst ei
      rw [hblkN] at hb'
      have h1 := hnew b hb'
      rw [hblk j (by omega)]
      intro e'
      have := hold j (by omega) b e'
      omega
    · rw [hblk i (by omega)] at hb'
      by_cases ej : j = n
      · subst ej
        rw [hblkN]
        intro e'
        have := hnew b e'
        have := hold i (by omega) b hb'
        omega
      · rw [hblk j (by omega)]
        exact h.apart i j (by omega) (by omega) hij b hb'

end Go.Proofs.Ytpnaoahlfhbbmaa
