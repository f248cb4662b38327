/- The law FnExactCompareRows returns true at every two rows, and writes nothing that was there. -/
import Derived.Test.YtagijnfiiifppaaCompareRows
namespace Go.Proofs.Ytagijnfiiifppaa
open Go.RowKit

theorem implCompareRows (a a' : Option Addr) (n n' c c' : Nat) (xs ys : List Int) (w : World) (hz : xs.length = n) (hz' : ys.length = n') (hn : n ≤ 9223372036854775807) (hn' : n' ≤ 9223372036854775807) (ha : At w a xs) (ha' : At w a' ys) :
    Calls Try.prog 10 #[.agg #[.slice a n c], .agg #[.slice a' n' c']] w fun e w' =>
      e = .returned (.tuple #[.int .i64 (cmpAns xs ys), .bool (good2 xs ys)]) ∧ Below w.heap.size w w' := implCompareRows_any a a' n n' c c' xs ys w hz hz' hn hn' ha ha'

theorem specCompareRows (a a' : Option Addr) (n n' c c' : Nat) (xs ys : List Int) (w : World) (hz : xs.length = n) (hz' : ys.length = n') (hn : n ≤ 9223372036854775807) (hn' : n' ≤ 9223372036854775807) (ha : At w a xs) (ha' : At w a' ys) :
    Calls Try.prog 11 #[.agg #[.slice a n c], .agg #[.slice a' n' c']] w fun e w' =>
      e = .returned (.tuple #[.int .i64 (cmpAns xs ys), .bool (good2 xs ys)]) ∧ Below w.heap.size w w' := specCompareRows_any a a' n n' c c' xs ys w hz hz' hn hn' ha ha'

set_option maxHeartbeats 4000000 in
theorem lawCompareRows (a : Option Addr) (n c : Nat) (xs : List Int) (a' : Option Addr) (n' c' : Nat) (ys : List Int) (w : World) (hz : xs.length = n) (hn : n ≤ 9223372036854775807) (ha : At w a xs) (hz' : ys.length = n') (hn' : n' ≤ 9223372036854775807) (ha' : At w a' ys) :
    Calls Try.prog 6 #[.agg #[.slice a n c], .agg #[.slice a' n' c']] w fun e w' => e = .returned (.bool true) ∧ Below w.heap.size w w' := by
  have B0 : Below w.heap.size w ((w.alloc (.cells #[.slice a n c] 45)).alloc (.cells #[.slice a' n' c'] 45)) := ((Below.refl _ _).alloc (Nat.le_refl _) _).alloc (by simp) _
  have p0 : ((w.alloc (.cells #[.slice a n c] 45)).alloc (.cells #[.slice a' n' c'] 45)).cell? ⟨w.heap.size, 0, none⟩ = some (.slice a n c) := by simp
  have q0 : ((w.alloc (.cells #[.slice a n c] 45)).alloc (.cells #[.slice a' n' c'] 45)).cell? ⟨w.heap.size + 1, 0, none⟩ = some (.slice a' n' c') := by simp
  by_cases hbig : (1048576 : Int) < n
  · go_enter Try.func6, Try.ntmps6
    go_wp2_with fail
    refine (szRow_any _ _ _ _ _ hn (by omega) (by omega)).mono ?_
    rintro e w1 ⟨rfl, hb1⟩
    rw [if_pos hbig]
    go_wp2
    go_ret
    exact ⟨rfl, B0.trans (hb1.mono B0.size)⟩
  · have hs : n ≤ 1048576 := by omega
    have hl : ¬ (1048576 : Int) - n < 0 := by omega
    by_cases hbig' : (1048576 : Int) - n < n'
    · go_enter Try.func6, Try.ntmps6
      go_wp2_with fail
      refine (szRow_any _ _ _ _ _ hn (by omega) (by omega)).mono ?_
      rintro e w1 ⟨rfl, hb1⟩
      rw [if_neg (by omega)]
      have q1 := cell_later hb1 q0
      have B1 := B0.trans (hb1.mono B0.size)
      go_wp2_with fail
      refine (szRow_any _ _ _ _ _ hn' (by omega) (by omega)).mono ?_
      rintro e w2 ⟨rfl, hb2⟩
      rw [if_pos hbig']
      go_wp2
      go_ret
      exact ⟨rfl, B1.trans (hb2.mono B1.size)⟩
    · have hs' : n' ≤ 1048576 := by omega
      have hl' : ¬ (1048576 : Int) - n - n' < 0 := by omega
      go_enter Try.func6, Try.ntmps6
      go_wp2_with fail
      refine (szRow_any _ _ _ _ _ hn (by omega) (by omega)).mono ?_
      rintro e w1 ⟨rfl, hb1⟩
      rw [if_neg (by omega)]
      have p_1 := cell_later hb1 p0
      have q_1 := cell_later hb1 q0
      have B_1 := B0.trans (hb1.mono B0.size)
      clear hb1 p0 q0
      go_wp2_with fail
      refine (szRow_any _ _ _ _ _ hn' (by omega) (by omega)).mono ?_
      rintro e w2 ⟨rfl, hb2⟩
      rw [if_neg (by omega)]
      have p_2 := cell_later hb2 p_1
      have q_2 := cell_later hb2 q_1
      have B_2 := B_1.trans (hb2.mono B_1.size)
      clear hb2 p_1 q_1 B_1
      go_wp2_with fail
      go_region_held3 (fun w' => w'.cell? ⟨w.heap.size, 0, none⟩ = some (.slice a n c) ∧ w'.cell? ⟨w.heap.size + 1, 0, none⟩ = some (.slice a' n' c')) (refine ⟨?_, ?_⟩ <;> assumption)
        (first
          | (go_at_call_of 27 (Value.slice a n c); refine (toRow_any _ _ _ xs _ hz hs (ha.below B_2.drew)).mono ?_; rintro e w3 ⟨g3, rfl, ho3, hb3⟩; have p3 := cell_later hb3 p_2; have q3 := cell_later hb3 q_2; have B3 := B_2.drew.trans (hb3.mono B_2.size))
          | (go_at_call_of 27 (Value.slice a' n' c'); refine (toRow_any _ _ _ ys _ hz' hs' (ha'.below B3)).mono ?_; rintro e w4 ⟨g4, rfl, ho4, hb4⟩; have p4 := cell_later hb4 p3; have q4 := cell_later hb4 q3; have B4 := B3.trans (hb4.mono B3.size))
          | (go_at_call 11; refine (specCompareRows _ _ _ _ _ _ xs ys _ hz hz' hn hn' (At.owned (owns_below ho3 hb4)) (At.owned ho4)).mono ?_; rintro e w5 ⟨rfl, hb5⟩; have p5 := cell_later hb5 p4; have q5 := cell_later hb5 q4; have B5 := B4.trans (hb5.mono B4.size)))
      clear ho3 ho4 hb3 hb4 hb5 p3 q3 p4 q4 B3 B4 B_2 p_2 q_2
      go_wp2_with fail
      refine (toRow_any _ _ _ xs _ hz hs (ha.below B5)).mono ?_
      rintro e w6 ⟨g6, rfl, ho6, hb6⟩
      have p_6 := cell_later hb6 p5
      have q_6 := cell_later hb6 q5
      have B_6 := B5.trans (hb6.mono B5.size)
      clear hb6 p5 q5 B5
      have hb7 : Below w6.heap.size w6 (w6.alloc (.cells #[.slice (some ⟨g6, 0, none⟩) n n] 25)) := (Below.refl _ _).alloc (Nat.le_refl _) _
      have p_7 := cell_later hb7 p_6
      have q_7 := cell_later hb7 q_6
      have o_7 := owns_below ho6 hb7
      have B_7 := B_6.trans (hb7.mono B_6.size)
      have x_7 : (w6.alloc (.cells #[.slice (some ⟨g6, 0, none⟩) n n] 25)).cell? ⟨w6.heap.size, 0, none⟩ = some (.slice (some ⟨g6, 0, none⟩) n n) := by simp
      go_wp2_with fail
      refine (toRow_any _ _ _ ys _ hz' hs' (ha'.below B_7)).mono ?_
      rintro e w8 ⟨g8, rfl, ho8, hb8⟩
      have p_8 := cell_later hb8 p_7
      have q_8 := cell_later hb8 q_7
      have x_8 := cell_later hb8 x_7
      have o_8 := owns_below o_7 hb8
      have B_8 := B_7.trans (hb8.mono B_7.size)
      clear hb8 p_7 q_7 x_7 o_7 B_7
      have hb9 : Below w8.heap.size w8 (w8.alloc (.cells #[.slice (some ⟨g8, 0, none⟩) n' n'] 25)) := (Below.refl _ _).alloc (Nat.le_refl _) _
      have p_9 := cell_later hb9 p_8
      have q_9 := cell_later hb9 q_8
      have x_9 := cell_later hb9 x_8
      have o_9 := owns_below o_8 hb9
      have r_9 := owns_below ho8 hb9
      have B_9 := B_8.trans (hb9.mono B_8.size)
      have y_9 : (w8.alloc (.cells #[.slice (some ⟨g8, 0, none⟩) n' n'] 25)).cell? ⟨w8.heap.size, 0, none⟩ = some (.slice (some ⟨g8, 0, none⟩) n' n') := by simp
      go_wp2_with fail
      refine (implCompareRows _ _ _ _ _ _ xs ys _ hz hz' hn hn' (At.owned o_9) (At.owned r_9)).mono ?_
      rintro e w10 ⟨rfl, hb10⟩
      have p_10 := cell_later hb10 p_9
      have q_10 := cell_later hb10 q_9
      have x_10 := cell_later hb10 x_9
      have y_10 := cell_later hb10 y_9
      have o_10 := owns_below o_9 hb10
      have r_10 := owns_below r_9 hb10
      have B_10 := B_9.trans (hb10.mono B_9.size)
      clear hb10 p_9 q_9 x_9 y_9 o_9 r_9 B_9
      go_wp2_with fail
      go_region_held3 (fun w' => w'.cell? ⟨w.heap.size, 0, none⟩ = some (.slice a n c) ∧ w'.cell? ⟨w6.heap.size, 0, none⟩ = some (.slice (some ⟨g6, 0, none⟩) n n)) (refine ⟨?_, ?_⟩ <;> assumption)
        (first
          | (go_at_call 27; refine (toRow_any _ _ _ xs _ hz hs (ha.below B_10.drew)).mono ?_; rintro e w11 ⟨g11, rfl, ho11, hb11⟩; have s11 := cell_later hb11 p_10; have t11 := cell_later hb11 x_10)
          | (go_at_call 28; refine (eqRow_any _ _ _ _ _ _ xs xs _ hz hz hs hs (At.owned (owns_below o_10.drew hb11)) (At.owned ho11)).mono ?_; rintro e w12 ⟨rfl, hb12⟩; have u12 := cell_later hb12 s11; have v12 := cell_later hb12 t11; rw [decide_eq_true (rfl : xs = xs)]))
      clear ho11 s11 t11 u12 v12
      have p_11 := cell_later hb11 p_10
      have q_11 := cell_later hb11 q_10
      have x_11 := cell_later hb11 x_10
      have y_11 := cell_later hb11 y_10
      have o_11 := owns_below o_10.drew hb11
      have r_11 := owns_below r_10.drew hb11
      have B_11 := B_10.drew.trans (hb11.mono B_10.size)
      clear hb11 p_10 q_10 x_10 y_10 o_10 r_10 B_10
      have p_12 := cell_later hb12 p_11
      have q_12 := cell_later hb12 q_11
      have x_12 := cell_later hb12 x_11
      have y_12 := cell_later hb12 y_11
      have o_12 := owns_below o_11 hb12
      have r_12 := owns_below r_11 hb12
      have B_12 := B_11.trans (hb12.mono B_11.size)
      clear hb12 p_11 q_11 x_11 y_11 o_11 r_11 B_11
      go_wp2_with fail
      go_region_held3 (fun w' => w'.cell? ⟨w.heap.size + 1, 0, none⟩ = some (.slice a' n' c') ∧ w'.cell? ⟨w8.heap.size, 0, none⟩ = some (.slice (some ⟨g8, 0, none⟩) n' n')) (refine ⟨?_, ?_⟩ <;> assumption)
        (first
          | (go_at_call 27; refine (toRow_any _ _ _ ys _ hz' hs' (ha'.below B_12.drew)).mono ?_; rintro e w13 ⟨g13, rfl, ho13, hb13⟩; have s13 := cell_later hb13 q_12; have t13 := cell_later hb13 y_12)
          | (go_at_call 28; refine (eqRow_any _ _ _ _ _ _ ys ys _ hz' hz' hs' hs' (At.owned (owns_below r_12.drew hb13)) (At.owned ho13)).mono ?_; rintro e w14 ⟨rfl, hb14⟩; have u14 := cell_later hb14 s13; have v14 := cell_later hb14 t13; rw [decide_eq_true (rfl : ys = ys)]))
      clear ho13 s13 t13 u14 v14
      have p_13 := cell_later hb13 p_12
      have q_13 := cell_later hb13 q_12
      have x_13 := cell_later hb13 x_12
      have y_13 := cell_later hb13 y_12
      have o_13 := owns_below o_12.drew hb13
      have r_13 := owns_below r_12.drew hb13
      have B_13 := B_12.drew.trans (hb13.mono B_12.size)
      clear hb13 p_12 q_12 x_12 y_12 o_12 r_12 B_12
      have p_14 := cell_later hb14 p_13
      have q_14 := cell_later hb14 q_13
      have x_14 := cell_later hb14 x_13
      have y_14 := cell_later hb14 y_13
      have o_14 := owns_below o_13 hb14
      have r_14 := owns_below r_13 hb14
      have B_14 := B_13.trans (hb14.mono B_13.size)
      clear hb14 p_13 q_13 x_13 y_13 o_13 r_13 B_13
      go_wp2
      go_ret
      exact ⟨rfl, B_14⟩

end Go.Proofs.Ytagijnfiiifppaa
