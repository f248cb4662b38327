/- The law FnExactGoodStream returns true at every stream, and writes nothing that was there. -/
import Derived.Test.YtmkhdocjabflkaaStreamH
import Derived.Test.YtmkhdocjabflkaaGoodStr
namespace Go.Proofs.Ytmkhdocjabflkaa
open Go.RowKit

set_option maxHeartbeats 2000000 in
theorem lawGoodStream (a : Option Addr) (n c : Nat) (ss : List Tab) (p : Int) (w : World) (hz : ss.length = n) (hn : n ≤ 9223372036854775807) (ha : AtSW w a ss) :
    Calls Try.prog 4 #[.agg #[.int .i64 p, .slice a n c]] w fun e w' => e = .returned (.bool true) ∧ Below w.heap.size w w' := by
  have B0 : Below w.heap.size w (w.alloc (.cells #[.int .i64 p, .slice a n c] 40)) := (Below.refl _ _).alloc (Nat.le_refl _) _
  by_cases hbig : (1048576 : Int) < stot ss n
  · go_enter Try.func4, Try.ntmps4
    go_wp2_with fail
    refine (szStream_any _ _ _ ss _ _ _ hz hn (by omega) (by omega) (ha.below B0)).mono ?_
    rintro e w1 ⟨rfl, hb1⟩
    rw [leftOf_no hbig]
    go_wp2
    go_ret
    exact ⟨rfl, B0.trans (hb1.mono (by simp))⟩
  · have hs : SmU ss n := ⟨hz, by omega⟩
    have hl : ¬ (1048576 : Int) - stot ss n < 0 := by omega
    go_enter Try.func4, Try.ntmps4
    go_wp2_with fail
    refine (szStream_any _ _ _ ss _ _ _ hz hn (by omega) (by omega) (ha.below B0)).mono ?_
    rintro e w1 ⟨rfl, hb1⟩
    rw [leftOf_yes (by omega)]
    have c1 := cell_later hb1 (pair1 w (.int .i64 p) (.slice a n c) 40)
    have d1 := cell_later hb1 (pair0 w (.int .i64 p) (.slice a n c) 40)
    have B1 : Below w.heap.size w w1 := B0.trans (hb1.mono (by simp))
    clear hb1 B0
    go_wp2_with fail
    refine (toStreamG _ _ _ ss _ _ hs (ha.below B1)).mono ?_
    rintro e w2 ⟨g2, rfl, ho2, hb2⟩
    have c2 := cell_later hb2 c1
    have d2 := cell_later hb2 d1
    have B2 : Below w.heap.size w w2 := B1.trans (hb2.mono B1.size)
    clear hb2 B1 c1 d1
    go_wp2_with fail
    refine (specGoodStream _ _ _ ss _ _ hs (ho2.atM hs)).mono ?_
    rintro e w3 ⟨rfl, hb3⟩
    have c3 := cell_later hb3 c2
    have d3 := cell_later hb3 d2
    have B3 : Below w.heap.size w w3 := B2.trans (hb3.mono B2.size)
    clear hb3 B2 c2 d2 ho2
    go_wp2_with fail
    refine (toStreamG _ _ _ ss _ _ hs (ha.below B3)).mono ?_
    rintro e w4 ⟨g4, rfl, ho4, hb4⟩
    have c4 := cell_later hb4 c3
    have d4 := cell_later hb4 d3
    have B4 : Below w.heap.size w w4 := B3.trans (hb4.mono B3.size)
    clear hb4 B3 c3 d3
    have ba : Below w4.heap.size w4 (w4.alloc (.cells #[.int .i64 p, .slice (some ⟨g4, 0, none⟩) n n] 45)) := (Below.refl _ _).alloc (Nat.le_refl _) _
    go_wp2_with fail
    refine (implGoodStream _ _ _ ss _ _ hs ((ho4.below ba).atM hs)).mono ?_
    rintro e w5 ⟨rfl, hb5⟩
    have c5 := cell_later hb5 (cell_later ba c4)
    have d5 := cell_later hb5 (cell_later ba d4)
    have e5 := cell_later hb5 (pair1 w4 (.int .i64 p) (.slice (some ⟨g4, 0, none⟩) n n) 45)
    have f5 := cell_later hb5 (pair0 w4 (.int .i64 p) (.slice (some ⟨g4, 0, none⟩) n n) 45)
    have B5 : Below w.heap.size w w5 := (B4.alloc B4.size _).trans (hb5.mono (by have := B4.size; simp; omega))
    have o5 := ((ho4.below ba).below hb5).below (Below.refl _ _).drew
    clear hb5 B4 c4 d4 ho4 ba
    go_wp2_with fail
    go_region_held3 (fun w' => w'.cell? ⟨w.heap.size, 0, none⟩ = some (.int .i64 p) ∧ w'.cell? ⟨w.heap.size, 1, none⟩ = some (.slice a n c) ∧ w'.cell? ⟨w4.heap.size, 0, none⟩ = some (.int .i64 p) ∧ w'.cell? ⟨w4.heap.size, 1, none⟩ = some (.slice (some ⟨g4, 0, none⟩) n n)) (refine ⟨?_, ?_, ?_, ?_⟩ <;> assumption)
      (first
        | (go_at_call 21; refine (toStreamG _ _ _ ss _ _ hs (ha.below B5.drew)).mono ?_; rintro e w6 ⟨g6, rfl, ho6, hb6⟩; have c6 := cell_later hb6 c5; have d6 := cell_later hb6 d5; have e6 := cell_later hb6 e5; have f6 := cell_later hb6 f5)
        | (go_at_call 23; refine (eqStreamG _ _ _ _ _ ss _ _ hs ((o5.below hb6).atSW hs) (ho6.atSW hs)).mono ?_; rintro e w7 ⟨rfl, hb7⟩; have c7 := cell_later hb7 c6; have d7 := cell_later hb7 d6; have e7 := cell_later hb7 e6; have f7 := cell_later hb7 f6))
    go_wp2
    go_ret
    have z6 : w5.heap.size ≤ w6.heap.size := hb6.size
    exact ⟨rfl, (B5.drew.trans (hb6.mono B5.size)).trans (hb7.mono (by have := B5.size; omega))⟩

end Go.Proofs.Ytmkhdocjabflkaa
