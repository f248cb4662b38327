/- The law FnExactRowText returns true at every row, and writes nothing that was there. -/
import Derived.Test.YtaaefdddibdenaaDoorTextT
import Derived.Test.YtaaefdddibdenaaDoorRowH
namespace Go.Proofs.YtaaefdddibdenaaDoor
open Go.RowKit

set_option maxHeartbeats 4000000 in
theorem lawRowText (a : Option Addr) (n c : Nat) (xs : List Int) (w : World) (hz : xs.length = n) (hn : n ≤ 9223372036854775807) (ha : At w a xs) (htab : Lib.TabIs Tryd.prog w "internal/strconv.uint64pow10" .u64 Lib.pow10Tab) :
    Calls Tryd.prog 3 #[.agg #[.slice a n c]] w fun e w' => e = .returned (.bool true) ∧ Below w.heap.size w w' := by
  have B0 : Below w.heap.size w (w.alloc (.cells #[.slice a n c] 24)) := (Below.refl _ _).alloc (Nat.le_refl _) _
  have p0 : (w.alloc (.cells #[.slice a n c] 24)).cell? ⟨w.heap.size, 0, none⟩ = some (.slice a n c) := by simp
  by_cases hbig : (1048576 : Int) < n
  · go_enter Tryd.func3, Tryd.ntmps3
    go_wp2_with fail
    refine (szRow_any _ _ _ _ _ hn (by omega) (by omega)).mono ?_
    rintro e w1 ⟨rfl, hb1⟩
    rw [if_pos hbig]
    go_wp2
    go_ret
    exact ⟨rfl, B0.trans (hb1.mono B0.size)⟩
  · have hs : n ≤ 1048576 := by omega
    have hl : ¬ (1048576 : Int) - n < 0 := by omega
    go_enter Tryd.func3, Tryd.ntmps3
    go_wp2_with fail
    refine (szRow_any _ _ _ _ _ hn (by omega) (by omega)).mono ?_
    rintro e w1 ⟨rfl, hb1⟩
    rw [if_neg (by omega)]
    have p_1 := cell_later hb1 p0
    have B_1 := B0.trans (hb1.mono B0.size)
    clear hb1 p0
    go_wp2_with fail
    refine (toRow_any _ _ _ xs _ hz hs (ha.below B_1)).mono ?_
    rintro e w2 ⟨g2, rfl, ho2, hb2⟩
    have p_2 := cell_later hb2 p_1
    have B_2 := B_1.trans (hb2.mono B_1.size)
    clear hb2 p_1 B_1
    go_wp2_with fail
    refine (specRowText _ _ _ xs _ hz hn (At.owned ho2)).mono ?_
    rintro e w3 ⟨rfl, hb3⟩
    clear ho2
    have p_3 := cell_later hb3 p_2
    have B_3 := B_2.trans (hb3.mono B_2.size)
    clear hb3 p_2 B_2
    go_wp2_with fail
    refine (toRow_any _ _ _ xs _ hz hs (ha.below B_3)).mono ?_
    rintro e w4 ⟨g4, rfl, ho4, hb4⟩
    have p_4 := cell_later hb4 p_3
    have B_4 := B_3.trans (hb4.mono B_3.size)
    clear hb4 p_3 B_3
    have hb5 : Below w4.heap.size w4 (w4.alloc (.cells #[.slice (some ⟨g4, 0, none⟩) n n] 28)) := (Below.refl _ _).alloc (Nat.le_refl _) _
    have p_5 := cell_later hb5 p_4
    have o_5 := owns_below ho4 hb5
    have B_5 := B_4.trans (hb5.mono B_4.size)
    have x_5 : (w4.alloc (.cells #[.slice (some ⟨g4, 0, none⟩) n n] 28)).cell? ⟨w4.heap.size, 0, none⟩ = some (.slice (some ⟨g4, 0, none⟩) n n) := by simp
    go_wp2_with fail
    refine (implRowText _ _ _ xs _ hz hn (At.owned o_5) (TabIs.below htab B_5)).mono ?_
    rintro e w6 ⟨rfl, hb6⟩
    have p_6 := cell_later hb6 p_5
    have x_6 := cell_later hb6 x_5
    have o_6 := owns_below o_5 hb6
    have B_6 := B_5.trans (hb6.mono B_5.size)
    clear hb6 p_5 x_5 o_5 B_5
    go_wp2_with fail
    go_region_held3 (fun w' => w'.cell? ⟨w.heap.size, 0, none⟩ = some (.slice a n c) ∧ w'.cell? ⟨w4.heap.size, 0, none⟩ = some (.slice (some ⟨g4, 0, none⟩) n n)) (refine ⟨?_, ?_⟩ <;> assumption)
      (first
        | (go_at_call 6; refine (toRow_any _ _ _ xs _ hz hs (ha.below B_6.drew)).mono ?_; rintro e w7 ⟨g7, rfl, ho7, hb7⟩; have s7 := cell_later hb7 p_6; have t7 := cell_later hb7 x_6)
        | (go_at_call 8; refine (eqRow_any _ _ _ _ _ _ xs xs _ hz hz hs hs (At.owned (owns_below o_6.drew hb7)) (At.owned ho7)).mono ?_; rintro e w8 ⟨rfl, hb8⟩; have u8 := cell_later hb8 s7; have v8 := cell_later hb8 t7; rw [decide_eq_true (rfl : xs = xs)]))
    have B_7 := B_6.drew.trans (hb7.mono B_6.size)
    have B_8 := B_7.trans (hb8.mono B_7.size)
    go_wp2
    go_ret
    exact ⟨rfl, B_8⟩

end Go.Proofs.YtaaefdddibdenaaDoor
