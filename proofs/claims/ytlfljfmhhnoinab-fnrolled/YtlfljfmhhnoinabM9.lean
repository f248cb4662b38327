/- Several texts of one proof, in build order: TabVar, GoodT. -/
import Derived.Test.YtlfljfmhhnoinabM5
import Derived.Test.YtlfljfmhhnoinabM8
import Derived.Test.YtlfljfmhhnoinabM6
import Derived.Test.YtlfljfmhhnoinabM2

/- A variable that holds a table: its block, and the rows that the call owns. -/
namespace Go.Proofs.Ytlfljfmhhnoinab
open Go.RowKit

/-- A variable of a table (block T): its columns, and its rows, the call's own from T + 1 on. -/
def TabVar (w : World) (T : Nat) (p : Int) (r : Option Addr) (k d : Nat) (ts : List WRow) (cells : List Value) : Prop :=
  w.heap[T]? = some (.cells #[.int .i64 p, .slice r k d] 32 (0, 0)) ∧ OwnW w (T + 1) w.heap.size 69 3 r k d ts cells

section
variable {w w' : World} {T : Nat} {p : Int} {r : Option Addr} {k d : Nat} {ts : List WRow} {cells : List Value}

theorem TabVar.lt (h : TabVar w T p r k d ts cells) : T < w.heap.size := (Array.getElem?_eq_some_iff.1 h.1).1
theorem TabVar.cell0 (h : TabVar w T p r k d ts cells) : w.cell? ⟨T, 0, none⟩ = some (.int .i64 p) := by rw [cell_of_row w T 0 _ _ (0, 0) h.1]; rfl
theorem TabVar.cell1 (h : TabVar w T p r k d ts cells) : w.cell? ⟨T, 1, none⟩ = some (.slice r k d) := by rw [cell_of_row w T 1 _ _ (0, 0) h.1]; rfl
theorem TabVar.frozen1 (h : TabVar w T p r k d ts cells) : w.frozen? ⟨T, 1, none⟩ = false := frozen_of_row w T 1 _ _ h.1
theorem TabVar.below (h : TabVar w T p r k d ts cells) (hb : Below w.heap.size w w') : TabVar w' T p r k d ts cells :=
  ⟨(hb.block T h.lt).trans h.1, (h.2.below hb).widen (Nat.le_refl _) hb.size (Nat.le_refl _)⟩
theorem TabVar.drew (h : TabVar w T p r k d ts cells) : TabVar w.drew T p r k d ts cells := h.below (Below.refl _ _).drew
theorem TabVar.new (w : World) (p : Int) : TabVar (w.alloc (.cells #[.int .i64 p, .slice none 0 0] 32)) w.heap.size p none 0 0 [] [] :=
  ⟨heap_alloc_new w _, OwnWk.start rfl (Nat.le_refl _) (World.ownsRow_nil _ _ _ _) (fun b hb => by cases hb)⟩
theorem TabVar.own (h : TabVar w T p r k d ts cells) : w.ownsRow (T + 1) 69 2 (.slice r k d) k cells := h.2.outer

theorem TabVar.pushed {w2 w4 : World} {a' : Option Addr} {m c' g cap : Nat} {zs : List Int} {x : Int} {o : Obj} (h : TabVar w T p r k d ts cells) (hb : Below w.heap.size w w2)
    (hm : zs.length = m) (hrow : w2.ownsRow w.heap.size 3 1 (.slice a' m c') m (zs.map (.int .i64)))
    (hown : w4.ownsRow (T + 1) 69 2 (.slice (some ⟨g, 0, none⟩) (k + 1) cap) (k + 1) (cells ++ [.slice a' m c', .int .i64 x])) (hgr : (w2.alloc o).grownBy w4 (Value.slice r k d).ownBlock)
    (hat : (Value.slice r k d).ownBlock = some g ∨ g = w2.heap.size + 1) (hlt : g < w4.heap.size) :
    w4.cell? ⟨T, 1, none⟩ = some (.slice r k d) ∧ w4.frozen? ⟨T, 1, none⟩ = false ∧ TabVar (w4.setCell ⟨T, 1, none⟩ (.slice (some ⟨g, 0, none⟩) (k + 1) cap)) T p (some ⟨g, 0, none⟩) (k + 1) cap (ts ++ [(zs, x)]) (cells ++ [.slice a' m c', .int .i64 x]) := by
  have hT := h.lt
  have h2 := hb.size
  have hne : some T ≠ (Value.slice r k d).ownBlock := fun e => by have := (h.own.lt T e.symm).1; omega
  have hR : w4.heap[T]? = some (.cells #[.int .i64 p, .slice r k d] 32 (0, 0)) := by
    rw [hgr.block T (by simp; omega) hne, Below.heap_alloc w2 o T (by omega), hb.block T hT]
    exact h.1
  refine ⟨by rw [cell_of_row w4 T 1 _ _ (0, 0) hR]; rfl, frozen_of_row w4 T 1 _ _ hR, ?_, ?_⟩
  · rw [heap_setCell_same w4 T 1 _ _ _ hR]; rfl
  · have hp := h.2.pushed (by omega) hb hm hrow hown hgr hat hlt
    exact (hp.setCell (a0 := ⟨T, 1, none⟩) (.inl (by show T < T + 1; omega)) _).widen (Nat.le_refl _) (by simp [World.setCell]) (Nat.le_refl _)

theorem TabVar.pushed_below {w2 w4 : World} {o : Obj} {B : Nat} {W : World} {v : Value} (h : TabVar w T p r k d ts cells) (hb : Below w.heap.size w w2)
    (hgr : (w2.alloc o).grownBy w4 (Value.slice r k d).ownBlock) (hB : Below B W w) (hBT : B ≤ T) : Below B W (w4.setCell ⟨T, 1, none⟩ v) := by
  have hT := h.lt
  have h2 := hb.size
  exact (((hB.trans (hb.mono (by omega))).alloc (by omega) o).grown hgr (by simp; omega) (fun j hj => by have := (h.own.lt j hj).1; omega)).setCell hBT _
end

/-- What a function that tells a table hands back. -/
def TabRet (e : Ending) (w' : World) (lo : Nat) (ok : Bool) (p : Int) (ts : List WRow) : Prop :=
  ∃ r m d cells, e = .returned (.tuple #[.agg #[.int .i64 p, .slice r m d], .bool ok]) ∧ OwnW w' lo w'.heap.size 69 3 r m d ts cells

/-- The columns and the rows that are told, nothing where they are no good table. -/
def tellP (p : Int) (ts : List WRow) : Int := if goodT p ts then p else 0
def tellT (p : Int) (ts : List WRow) : List WRow := if goodT p ts then ts else []

end Go.Proofs.Ytlfljfmhhnoinab

/- Contracts of impl.goodColumns, impl.goodWeight, impl.goodWeighted, impl.GoodTable. -/
namespace Go.Proofs.Ytlfljfmhhnoinab
open Go.RowKit

theorem goodColumns_any (p : Int) (w : World) :
    Calls Try.prog 94 #[.int .i64 p] w fun e w' => e = .returned (.bool (inc p)) ∧ w' = w := by
  by_cases h : 0 ≤ p
  · go_enter Try.func94, Try.ntmps94
    go_wp2
    go_ret
    exact ⟨ret_bool (by simp [inc, h]), rfl⟩
  · go_enter Try.func94, Try.ntmps94
    go_wp2
    go_ret
    exact ⟨ret_bool (by simp only [inc, decide_eq_false (show ¬ 0 ≤ p by omega), Bool.false_and]), rfl⟩

theorem goodWeight_any (p : Int) (w : World) :
    Calls Try.prog 121 #[.int .i64 p] w fun e w' => e = .returned (.bool (inw p)) ∧ w' = w := by
  by_cases h : -1000000 ≤ p
  · go_enter Try.func121, Try.ntmps121
    go_wp2
    go_ret
    exact ⟨ret_bool (by simp [inw, h]), rfl⟩
  · go_enter Try.func121, Try.ntmps121
    go_wp2
    go_ret
    exact ⟨ret_bool (by simp only [inw, decide_eq_false (show ¬ -1000000 ≤ p by omega), Bool.false_and]), rfl⟩

set_option maxHeartbeats 2000000 in
theorem goodWeighted_any (a : Option Addr) (n c : Nat) (ts : List WRow) (p : Int) (w : World) (hz : ts.length = n) (hn : n ≤ 1048576) (ha : AtW w a ts) :
    Calls Try.prog 95 #[.int .i64 p, .slice a n c] w fun e w' => e = .returned (.bool (goodL p ts)) ∧ Below w.heap.size w w' := by
  by_cases h0 : n = 0
  · subst h0
    obtain rfl := List.eq_nil_of_length_eq_zero hz
    go_enter Try.func95, Try.ntmps95
    go_wp2
    refine wp_loop_rounds 1 ?_
    rw [rounds_succ]
    go_wp2
    go_ret
    exact ⟨ret_bool rfl, Below.refl _ _⟩
  · go_enter Try.func95, Try.ntmps95
    go_wp2
    go_loopw [9] (fun i wr => ∃ (k : Nat), k ≤ n ∧ i = .int .i64 k ∧ (∀ j, j < k → goodW p (wat ts j) = true) ∧ Below w.heap.size w wr) (fun i _ => n - (intOf i).toNat)
    case atStart => exact ⟨0, Nat.zero_le _, rfl, fun j hj => by omega, Below.refl _ _⟩
    case round =>
      obtain ⟨k, hk, rfl, hall, hbw⟩ := hrel
      by_cases hlt : k < n
      · obtain ⟨b, off, rfl, hc⟩ := (ha.below hbw).some (by omega)
        obtain ⟨q, d, hcx, hwx, hm, hat⟩ := hc k (by omega)
        have HN : Hid (goodW p (wat ts k) = false → goodL p ts = false) := fun h => goodL_not k (by omega) h
        have HS : Hid (goodW p (wat ts k) = true → ∀ j, j < k + 1 → goodW p (wat ts j) = true) := fun h j hj => by
          by_cases e : j = k
          · subst e; exact h
          · exact hall j (by omega)
        generalize wat ts k = Y at *
        obtain ⟨ys, x⟩ := Y
        simp only at hcx hwx hat hm
        obtain ⟨m, hmm⟩ : ∃ m, ys.length = m := ⟨_, rfl⟩
        rw [hmm] at hcx hm
        have HM := Hid.mk hmm
        have hki : (k : Int) < (n : Int) := by omega
        clear hall hc hmm ha
        have hb1 : Below wr.heap.size wr (wr.alloc (.cells #[.slice q m d, .int .i64 x] 69)) := (Below.refl _ _).alloc (Nat.le_refl _) _
        have HA := hat.below hb1
        have B1 := hbw.trans (hb1.mono hbw.size)
        clear hb1 hat
        cases hg : good ys with
        | false =>
          have HG := Hid.mk hg
          clear hg
          go_wp2_with fail
          refine (implGoodRow_any _ _ _ ys _ HM.out hm HA).mono ?_
          rintro e w1 ⟨rfl, hb⟩
          rw [HG.out]
          go_wp2
          go_ret
          exact ⟨ret_bool (HN.out (goodW_row HG.out)).symm, B1.trans (hb.mono B1.size)⟩
        | true =>
          have HG := Hid.mk hg
          clear hg
          by_cases hl : (m : Int) = p
          · have hne : ((m : Int) != p) = false := by simp [hl]
            have HL := Hid.mk hl
            clear hl
            cases hi : inw x with
            | false =>
              have HI := Hid.mk hi
              clear hi
              go_wp2_with fail
              refine (implGoodRow_any _ _ _ ys _ HM.out hm HA).mono ?_
              rintro e w1 ⟨rfl, hb⟩
              rw [HG.out]
              have e1 := cell_later hb (pair0 wr (.slice q m d) (.int .i64 x) 69)
              have e2 := cell_later hb (pair1 wr (.slice q m d) (.int .i64 x) 69)
              go_wp2_with (go_at_call 121; refine (goodWeight_any _ _).mono ?_; rintro e w2 ⟨rfl, rfl⟩; rw [HI.out])
              go_ret
              exact ⟨ret_bool (HN.out (goodW_wt HI.out)).symm, B1.trans (hb.mono B1.size)⟩
            | true =>
              have HI := Hid.mk hi
              clear hi
              go_wp2_with fail
              refine (implGoodRow_any _ _ _ ys _ HM.out hm HA).mono ?_
              rintro e w1 ⟨rfl, hb⟩
              rw [HG.out]
              have e1 := cell_later hb (pair0 wr (.slice q m d) (.int .i64 x) 69)
              have e2 := cell_later hb (pair1 wr (.slice q m d) (.int .i64 x) 69)
              go_wp2_with (go_at_call 121; refine (goodWeight_any _ _).mono ?_; rintro e w2 ⟨rfl, rfl⟩; rw [HI.out])
              go_roundw
              case rel => exact ⟨k + 1, by omega, by go_num, HS.out (goodW_mk HG.out (by show (ys.length : Int) = p; rw [HM.out]; exact HL.out) HI.out), B1.trans (hb.mono B1.size)⟩
              case measure => simp [intOf]; omega
          · have hne : ((m : Int) != p) = true := by simp [hl]
            have HL := Hid.mk hl
            clear hl
            go_wp2_with fail
            refine (implGoodRow_any _ _ _ ys _ HM.out hm HA).mono ?_
            rintro e w1 ⟨rfl, hb⟩
            rw [HG.out]
            have e1 := cell_later hb (pair0 wr (.slice q m d) (.int .i64 x) 69)
            go_wp2
            go_ret
            exact ⟨ret_bool (HN.out (goodW_len (by show (ys.length : Int) ≠ p; rw [HM.out]; exact HL.out))).symm, B1.trans (hb.mono B1.size)⟩
      · go_wp2
        go_ret
        exact ⟨ret_bool (goodL_of (fun j hj => hall j (by omega))).symm, hbw⟩

end Go.Proofs.Ytlfljfmhhnoinab
