/- A question's core in memory: what the loop of CoreOf holds. -/
import Derived.Test.YtociphdhkjoofaaM20
import Derived.Test.YtociphdhkjoofaaM21
import Derived.Test.YtociphdhkjoofaaM22
namespace Go.Proofs.Ytociphdhkjoofaa
open Go.RowKit

def crB (hs : List Int) (zs : List Atm) (ts : List Int) : Bool := gqB hs zs ts
def crH (hs : List Int) (zs : List Atm) (ts : List Int) : List Int := if gqB hs zs ts then hs else []
def crZ (hs : List Int) (zs : List Atm) (ts : List Int) : List Atm := if gqB hs zs ts then coreF hs ts zs.length zs 0 else []
/-- Blocks from B on that are there, P left out. -/
def Bk (B P : Nat) (w : World) : Nat → Prop := fun b => B ≤ b ∧ b < w.heap.size ∧ b ≠ P
/-- What is held: the variable P tells a question whose memory lies from B on, outside P. -/
structure CVar (w : World) (P B : Nat) (hs : List Int) (r : Option Addr) (fn d : Nat) (zs : List Atm) (r' : Option Addr) (m d' : Nat) : Prop where
  blk : w.heap[P]? = some (.cells #[.slice r fn d, .slice r' m d'] 29 (0, 0))
  own : RQry.Own w (Bk B P w) [.slice r fn d, .slice r' m d'] (hs, zs)
  lt : B ≤ P
section
variable {w w' : World} {P B : Nat} {hs : List Int} {r r' rn : Option Addr} {fn d m d' dn k : Nat} {zs zs' : List Atm}
theorem Bk.grow {b : Nat} (h : Bk B P w b) (hs : w.heap.size ≤ w'.heap.size) : Bk B P w' b := ⟨h.1, Nat.lt_of_lt_of_le h.2.1 hs, h.2.2⟩
theorem CVar.size (h : CVar w P B hs r fn d zs r' m d') : P < w.heap.size := (Array.getElem?_eq_some_iff.1 h.blk).1
theorem own_belowQ (h : RQry.Own w (Bk B P w) [.slice r fn d, .slice r' m d'] (hs, zs)) (hb : Below w.heap.size w w') : RQry.Own w' (Bk B P w') [.slice r fn d, .slice r' m d'] (hs, zs) :=
  RQry.mono (RQry.ownBelow h hb) (fun _ hB => hB.grow hb.size)
theorem CVar.below (h : CVar w P B hs r fn d zs r' m d') (hb : Below w.heap.size w w') : CVar w' P B hs r fn d zs r' m d' :=
  ⟨blk_below h.blk hb, own_belowQ h.own hb, h.lt⟩
theorem CVar.cell0 (h : CVar w P B hs r fn d zs r' m d') : w.cell? ⟨P, 0, none⟩ = some (.slice r fn d) := blk_cell h.blk 0 rfl
theorem CVar.cell1 (h : CVar w P B hs r fn d zs r' m d') : w.cell? ⟨P, 1, none⟩ = some (.slice r' m d') := blk_cell h.blk 1 rfl
theorem CVar.set (h : CVar w P B hs r fn d zs r' m d') (ho : RQry.Own w (Bk B P w) [.slice r fn d, .slice rn k dn] (hs, zs')) : CVar ((w.setCell ⟨P, 0, none⟩ (.slice r fn d)).setCell ⟨P, 1, none⟩ (.slice rn k dn)) P B hs r fn d zs' rn k dn := by
  refine ⟨blk_set (blk_set h.blk 0 _) 1 _, RQry.mono (RQry.frame ho (fun b hb _ => ?_)) (fun b hb => ⟨hb.1, by simpa [World.setCell] using hb.2.1, hb.2.2⟩), h.lt⟩
  rw [Below.heap_setCell _ _ _ b (by simpa using hb.2.2), Below.heap_setCell _ _ _ b (by simpa using hb.2.2)]
/-- The atoms' cells, and what it takes to leave one out. -/
theorem CVar.cut (h : CVar w P B hs r fn d zs r' m d') : zs.length = m ∧ hs.length = fn ∧ ∃ cells, w.ownsRow 0 58 2 (.slice r' m d') m cells ∧ (∀ u ∈ cells, u.oneCell' = true) ∧ ∀ (i : Nat) (w' : World) (rn : Option Addr) (dn : Nat), i < m → Below w.heap.size w w' →
    w'.ownsRow w.heap.size 58 2 (.slice rn (m - 1) dn) (m - 1) (cutC cells 2 i) → RQry.Own w' (Bk B P w') [.slice r fn d, .slice rn (m - 1) dn] (hs, zs.eraseIdx i) := by
  have hP := h.size
  obtain ⟨F1, F2, h1, h2, f1, f2, d12⟩ := RQry.own_open (RQry.tight h.own)
  have hfn : hs.length = fn := (RInts.own_iff.1 h1).1
  obtain ⟨a', n', c', cells, G, he, hl⟩ := h2
  simp only [List.cons.injEq, Value.slice.injEq, and_true] at he
  obtain ⟨rfl, rfl, rfl⟩ := he
  refine ⟨hl.len, hfn, cells, hl.outer, ?_, fun i w' rn dn hi hb ho => ?_⟩
  · intro u hu
    obtain ⟨j, hj, rfl⟩ := List.mem_iff_getElem.1 hu
    have hcl : cells.length = m * 2 := hl.outer.1
    obtain ⟨q, hq⟩ : ∃ q, j = q * 2 ∨ j = q * 2 + 1 := ⟨j / 2, by omega⟩
    have hqm : q < m := by omega
    obtain ⟨x, hx⟩ : ∃ x, zs[q]? = some x := ⟨_, List.getElem?_eq_getElem (by rw [hl.len]; exact hqm)⟩
    obtain ⟨ta, tn, tc, hcs, _⟩ := RAtm.own_open (hl.row q x hqm hx)
    have hcs2 : sub cells (q * 2) 2 = [.int .i64 x.1, .slice ta tn tc] := hcs
    have e0 := sub_at (cells := cells) (o := q * 2) (k := 2) (j := 0) (by omega)
    have e1 := sub_at (cells := cells) (o := q * 2) (k := 2) (j := 1) (by omega)
    rw [hcs2] at e0 e1
    rcases hq with rfl | rfl
    · have : cells[q * 2]? = some (.int .i64 x.1) := by simpa using e0.symm
      rw [List.getElem?_eq_getElem hj] at this
      rw [Option.some.inj this]; rfl
    · have : cells[q * 2 + 1]? = some (.slice ta tn tc) := by simpa using e1.symm
      rw [List.getElem?_eq_getElem hj] at this
      rw [Option.some.inj this]; rfl
  · have hw := Laid.without (F' := fun b => F2 b ∨ (Value.slice rn (m - 1) dn).ownBlock = some b) (w' := w') (a' := rn) (c' := dn) hl hi (fun j b _ _ _ hb9 => hb.block b hb9) (owns_mono ho (Nat.zero_le _)) (fun b hb9 => .inr hb9)
      (fun j b hj hG => ⟨.inl (hl.rowF j b hj hG).1, fun e => by have h1 := (f2 b (hl.rowF j b hj hG).1).2; have h2 := (ho.lt b e).1; omega⟩)
    refine RQry.own_mk (F1 := F1) (F2 := fun b => F2 b ∨ (Value.slice rn (m - 1) dn).ownBlock = some b) (RInts.ownBelow h1 hb) ⟨_, _, _, _, _, rfl, hw⟩ (fun b hb9 => (f1 b hb9).1.grow hb.size) (fun b hb9 => ?_) (fun b hb9 hb8 => ?_)
    · rcases hb9 with h9 | h9
      · exact (f2 b h9).1.grow hb.size
      · have := ho.lt b h9
        have := h.lt
        exact ⟨by omega, by omega, by omega⟩
    · rcases hb8 with h9 | h9
      · exact d12 b hb9 h9
      · have h2 := (ho.lt b h9).1
        have h3 := (f1 b hb9).2
        omega
end

end Go.Proofs.Ytociphdhkjoofaa
