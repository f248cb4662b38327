/- The law FnExactReadRow returns true at every text, and writes nothing that was there. -/
import Derived.Test.YtagijnfiiifppaaReadRowN
namespace Go.Proofs.Ytagijnfiiifppaa
open Go.RowKit

set_option maxHeartbeats 4000000 in
theorem lawReadRow (s : ByteArray) (w : World) (hmax : s.size ≤ maxLen) :
    Calls Try.prog 8 #[.string s] w fun e w' => e = .returned (.bool true) ∧ Below w.heap.size w w' := by
  unfold maxLen at hmax
  by_cases hbig : 1048576 < s.size
  · have hbig' : (1048576 : Int) < (s.size : Int) := by omega
    go_enter Try.func8, Try.ntmps8
    go_wp2
    go_ret
    exact ⟨rfl, Below.refl _ _⟩
  · have hs : s.size ≤ 1048576 := by omega
    have hs' : ¬ (1048576 : Int) < (s.size : Int) := by omega
    have B0 := Below.refl w.heap.size w
    have hsm := readZ_small s
    go_enter Try.func8, Try.ntmps8
    go_wp2_with fail
    refine (specReadRow s _ hs).mono ?_
    rintro e w1 ⟨a1, m1, d1, rfl, hm1, ho1, hb1⟩
    have B_1 := B0.trans (hb1.mono B0.size)
    clear hb1
    have hlt1 := ho1.lt
    have hb2 : Below w1.heap.size w1 (w1.alloc (.cells #[.slice a1 m1 d1] 25)) := (Below.refl _ _).alloc (Nat.le_refl _) _
    have o_2 := owns_below ho1 hb2
    have B_2 := B_1.trans (hb2.mono B_1.size)
    have W_2 : (w1.alloc (.cells #[.slice a1 m1 d1] 25)).cell? ⟨w1.heap.size, 0, none⟩ = some (.slice a1 m1 d1) := by simp
    go_wp2_with fail
    refine (implReadRow s _ hs).mono ?_
    rintro e w3 ⟨a3, m3, d3, rfl, hm3, ho3, hb3⟩
    have W_3 := cell_later hb3 W_2
    have o_3 := owns_below o_2 hb3
    have B_3 := B_2.trans (hb3.mono B_2.size)
    clear hb3 W_2 o_2 B_2
    have hlt2 := ho3.lt
    obtain rfl : m3 = m1 := hm3.symm.trans hm1
    have hb4 : Below w3.heap.size w3 (w3.alloc (.cells #[.slice a3 m3 d3] 25)) := (Below.refl _ _).alloc (Nat.le_refl _) _
    have W_4 := cell_later hb4 W_3
    have o_4 := owns_below o_3 hb4
    have g_4 := owns_below ho3 hb4
    have B_4 := B_3.trans (hb4.mono B_3.size)
    have G_4 : (w3.alloc (.cells #[.slice a3 m3 d3] 25)).cell? ⟨w3.heap.size, 0, none⟩ = some (.slice a3 m3 d3) := by simp
    go_wp2_with fail
    refine (eqRow_any _ _ _ _ _ _ (readZ s) (readZ s) _ hm3 hm3 (by omega) (by omega) (At.owned g_4) (At.owned o_4)).mono ?_
    rintro e w5 ⟨rfl, hb5⟩
    rw [decide_eq_true (rfl : readZ s = readZ s)]
    have W_5 := cell_later hb5 W_4
    have G_5 := cell_later hb5 G_4
    have o_5 := owns_below o_4 hb5
    have g_5 := owns_below g_4 hb5
    have B_5 := B_4.trans (hb5.mono B_4.size)
    clear hb5 W_4 G_4 o_4 g_4 B_4
    go_wp2_with fail
    refine (markRow_any _ _ _ _ _ _ _ (by omega) (by omega) (by omega) g_5).mono ?_
    rintro e w6 ⟨rfl, ho6, hg6⟩
    have W_6 := hg6.cell W_5 (fun e => by have := (hlt2 _ e.symm).1; simp at this; omega)
    have G_6 := hg6.cell G_5 (fun e => by have := (hlt2 _ e.symm).2; simp at this)
    have o_6 := o_5.kept hg6 (by cases hv : (Value.slice a1 m3 d1).ownBlock with | none => exact .inl rfl | some k => exact .inr (fun e => by have := (hlt1 k hv).2; have := (hlt2 k e.symm).1; simp at this; omega))
    have B_6 := B_5.grown hg6 B_5.size (fun k hk => by have q := (hlt2 k hk).1; simp at q; have := B_1.size; omega)
    clear hg6
    go_wp2_with fail
    refine (heldRow_any _ _ _ _ _ (by omega) (by omega) (by omega) (At.owned ho6)).mono ?_
    rintro e w7 ⟨rfl, hb7⟩
    have W_7 := cell_later hb7 W_6
    have G_7 := cell_later hb7 G_6
    have o_7 := owns_below o_6 hb7
    have g_7 := owns_below ho6 hb7
    have B_7 := B_6.trans (hb7.mono B_6.size)
    clear hb7 W_6 G_6 o_6 ho6 B_6
    go_wp2_with fail
    refine (implReadRow s _ hs).mono ?_
    rintro e w8 ⟨a8, m8, d8, rfl, hm8, ho8, hb8⟩
    have W_8 := cell_later hb8 W_7
    have G_8 := cell_later hb8 G_7
    have o_8 := owns_below o_7 hb8
    have g_8 := owns_below g_7 hb8
    have B_8 := B_7.trans (hb8.mono B_7.size)
    clear hb8 W_7 G_7 o_7 g_7 B_7
    obtain rfl : m8 = m3 := hm8.symm.trans hm3
    have hb9 : Below w8.heap.size w8 (w8.alloc (.cells #[.slice a8 m8 d8] 25)) := (Below.refl _ _).alloc (Nat.le_refl _) _
    have W_9 := cell_later hb9 W_8
    have G_9 := cell_later hb9 G_8
    have o_9 := owns_below o_8 hb9
    have g_9 := owns_below g_8 hb9
    have h_9 := owns_below ho8 hb9
    have B_9 := B_8.trans (hb9.mono B_8.size)
    have H_9 : (w8.alloc (.cells #[.slice a8 m8 d8] 25)).cell? ⟨w8.heap.size, 0, none⟩ = some (.slice a8 m8 d8) := by simp
    go_wp2_with fail
    refine (eqRow_any _ _ _ _ _ _ (readZ s) (readZ s) _ hm8 hm8 (by omega) (by omega) (At.owned h_9) (At.owned o_9)).mono ?_
    rintro e w10 ⟨rfl, hb10⟩
    rw [decide_eq_true (rfl : readZ s = readZ s)]
    have W_10 := cell_later hb10 W_9
    have G_10 := cell_later hb10 G_9
    have H_10 := cell_later hb10 H_9
    have o_10 := owns_below o_9 hb10
    have g_10 := owns_below g_9 hb10
    have h_10 := owns_below h_9 hb10
    have B_10 := B_9.trans (hb10.mono B_9.size)
    clear hb10 W_9 G_9 H_9 o_9 g_9 h_9 B_9
    go_wp2_with fail
    refine (heldRow_any _ _ _ _ _ (by omega) (by omega) (by omega) (At.owned g_10)).mono ?_
    rintro e w11 ⟨rfl, hb11⟩
    have W_11 := cell_later hb11 W_10
    have G_11 := cell_later hb11 G_10
    have H_11 := cell_later hb11 H_10
    have o_11 := owns_below o_10 hb11
    have g_11 := owns_below g_10 hb11
    have h_11 := owns_below h_10 hb11
    have B_11 := B_10.trans (hb11.mono B_10.size)
    clear hb11 W_10 G_10 H_10 o_10 g_10 h_10 B_10
    go_wp2
    go_ret
    exact ⟨rfl, B_11⟩

end Go.Proofs.Ytagijnfiiifppaa
