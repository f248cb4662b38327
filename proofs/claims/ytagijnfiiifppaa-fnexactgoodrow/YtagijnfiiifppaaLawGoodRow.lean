/- The law FnExactGoodRow returns true at every row, and writes nothing that was there. -/
import Derived.Test.YtagijnfiiifppaaGoodRow
namespace Go.Proofs.Ytagijnfiiifppaa
open Go.RowKit

set_option maxHeartbeats 1000000 in
theorem lawGoodRow (a : Option Addr) (n c : Nat) (zs : List Int) (w : World) (hz : zs.length = n) (hn : n ≤ 9223372036854775807) (ha : At w a zs) :
    Calls Try.prog 5 #[.agg #[.slice a n c]] w fun e w' => e = .returned (.bool true) ∧ Below w.heap.size w w' := by
  have B0 : Below w.heap.size w (w.alloc (.cells #[.slice a n c] 45)) := (Below.refl _ _).alloc (Nat.le_refl _) _
  by_cases hbig : (1048576 : Int) < n
  · go_enter Try.func5, Try.ntmps5
    go_wp2_with fail
    refine (szRow_any _ _ _ _ _ hn (by omega) (by omega)).mono ?_
    rintro e w1 ⟨rfl, hb1⟩
    rw [if_pos hbig]
    go_wp2
    go_ret
    exact ⟨rfl, B0.trans (hb1.mono (by simp))⟩
  · have hsm : n ≤ 1048576 := by omega
    have hl : ¬ (1048576 : Int) - n < 0 := by omega
    go_enter Try.func5, Try.ntmps5
    go_wp2_with fail
    refine (szRow_any _ _ _ _ _ hn (by omega) (by omega)).mono ?_
    rintro e w1 ⟨rfl, hb1⟩
    rw [if_neg (by omega)]
    have c1 : w1.cell? ⟨w.heap.size, 0, none⟩ = some (.slice a n c) := (hb1.cell (by simp)).trans (by simp)
    have B1 : Below w.heap.size w w1 := B0.trans (hb1.mono (by simp))
    have z1 : w.heap.size < w1.heap.size := by have := hb1.size; simp at this; omega
    clear hb1 B0
    go_wp2_with fail
    refine (toRow_any _ _ _ zs _ hz hsm (ha.below B1)).mono ?_
    rintro e w2 ⟨g2, rfl, ho2, hb2⟩
    have c2 : w2.cell? ⟨w.heap.size, 0, none⟩ = some (.slice a n c) := (hb2.cell z1).trans c1
    have B2 : Below w.heap.size w w2 := B1.trans (hb2.mono (by omega))
    have z2 : w.heap.size < w2.heap.size := by have := hb2.size; omega
    clear hb2 B1 c1 z1
    go_wp2_with fail
    refine (specGoodRow_any _ _ _ zs _ hz hn (At.owned ho2)).mono ?_
    rintro e w3 ⟨rfl, hb3⟩
    have c3 : w3.cell? ⟨w.heap.size, 0, none⟩ = some (.slice a n c) := (hb3.cell z2).trans c2
    have B3 : Below w.heap.size w w3 := B2.trans (hb3.mono (by omega))
    have z3 : w.heap.size < w3.heap.size := by have := hb3.size; omega
    clear hb3 B2 c2 z2 ho2
    go_wp2_with fail
    refine (toRow_any _ _ _ zs _ hz hsm (ha.below B3)).mono ?_
    rintro e w4 ⟨g4, rfl, ho4, hb4⟩
    have c4 : w4.cell? ⟨w.heap.size, 0, none⟩ = some (.slice a n c) := (hb4.cell z3).trans c3
    have B4 : Below w.heap.size w w4 := B3.trans (hb4.mono (by omega))
    have z4 : w.heap.size < w4.heap.size := by have := hb4.size; omega
    clear hb4 B3 c3 z3
    go_wp2_with fail
    refine (implGoodRow_any _ _ _ zs _ hz hn (At.owned (ho4.alloc _))).mono ?_
    rintro e w5 ⟨rfl, hb5⟩
    have c5 : w5.cell? ⟨w.heap.size, 0, none⟩ = some (.slice a n c) := cell_later hb5 (cell_later ((Below.refl _ _).alloc (Nat.le_refl _) _) c4)
    have d5 : w5.cell? ⟨w4.heap.size, 0, none⟩ = some (.slice (some ⟨g4, 0, none⟩) n n) := (hb5.cell (by simp)).trans (by simp)
    have B5 : Below w.heap.size w w5 := (B4.alloc (by omega) _).trans (hb5.mono (by simp; omega))
    have z5 : w4.heap.size < w5.heap.size := by have := hb5.size; simp at this; omega
    have o5 := owns_below (ho4.alloc _) hb5
    clear hb5 B4 c4 ho4
    go_wp2_with fail
    go_region_held3 (fun w' => w'.cell? ⟨w.heap.size, 0, none⟩ = some (.slice a n c) ∧ w'.cell? ⟨w4.heap.size, 0, none⟩ = some (.slice (some ⟨g4, 0, none⟩) n n)) (first | exact ⟨c5, d5⟩ | exact ⟨c6, d6⟩ | exact ⟨c7, d7⟩)
      (first
        | (go_at_call 27; refine (toRow_any _ _ _ zs _ hz hsm (ha.below B5.drew)).mono ?_; rintro e w6 ⟨g6, rfl, ho6, hb6⟩; have c6 := cell_later hb6 c5; have d6 := cell_later hb6 d5)
        | (go_at_call 28; refine (eqRow_any _ _ _ _ _ _ zs zs _ hz hz hsm hsm (At.owned (owns_below o5.drew hb6)) (At.owned ho6)).mono ?_; rintro e w7 ⟨rfl, hb7⟩; have c7 := cell_later hb7 c6; have d7 := cell_later hb7 d6; rw [decide_eq_true (rfl : zs = zs)]))
    go_wp2
    go_ret
    have z6 : w5.heap.size ≤ w6.heap.size := hb6.size
    exact ⟨rfl, (B5.drew.trans (hb6.mono (show _ ≤ w5.heap.size by omega))).trans (hb7.mono (by omega))⟩

end Go.Proofs.Ytagijnfiiifppaa
