/- The law FnExactJoinDelta returns true at every input, and writes nothing that was there. -/
import Derived.Test.YtmkhdocjabflkaaM9
import Derived.Test.YtmkhdocjabflkaaM30
namespace Go.Proofs.Ytmkhdocjabflkaa
open Go.RowKit

set_option maxRecDepth 100000 in
set_option maxHeartbeats 16000000 in
theorem lawJoinDelta (a0 : Option Addr) (n0 c0 : Nat) (z0 : List WRow) (p0x : Int) (a1 : Option Addr) (n1 c1 : Nat) (z1 : List WRow) (p1x : Int) (a2 : Option Addr) (n2 c2 : Nat) (z2 : List WRow) (p2x : Int) (a3 : Option Addr) (n3 c3 : Nat) (z3 : List WRow) (p3x : Int) (a4 : Option Addr) (n4 c4 : Nat) (z4 : List (List Int)) (w : World) (hz0 : z0.length = n0) (hn0 : n0 ≤ 9223372036854775807) (ha0 : AtW w a0 z0) (hz1 : z1.length = n1) (hn1 : n1 ≤ 9223372036854775807) (ha1 : AtW w a1 z1) (hz2 : z2.length = n2) (hn2 : n2 ≤ 9223372036854775807) (ha2 : AtW w a2 z2) (hz3 : z3.length = n3) (hn3 : n3 ≤ 9223372036854775807) (ha3 : AtW w a3 z3) (hz4 : z4.length = n4) (hn4 : n4 ≤ 9223372036854775807) (ha4 : AtS w a4 z4) :
    Calls Try.prog 8 #[.agg #[.int .i64 p0x, .slice a0 n0 c0], .agg #[.int .i64 p1x, .slice a1 n1 c1], .agg #[.int .i64 p2x, .slice a2 n2 c2], .agg #[.int .i64 p3x, .slice a3 n3 c3], .slice a4 n4 c4] w fun e w' => e = .returned (.bool true) ∧ Below w.heap.size w w' := by
  obtain ⟨W, hW⟩ : ∃ W, W = ((((w.alloc (.cells #[.int .i64 p0x, .slice a0 n0 c0] 54)).alloc (.cells #[.int .i64 p1x, .slice a1 n1 c1] 54)).alloc (.cells #[.int .i64 p2x, .slice a2 n2 c2] 54)).alloc (.cells #[.int .i64 p3x, .slice a3 n3 c3] 54)) := ⟨_, rfl⟩
  have B0 : Below w.heap.size w W := by rw [hW]; exact (((((Below.refl _ _).alloc (Nat.le_refl _) _).alloc (by simp) _).alloc (by simp; omega) _).alloc (by simp; omega) _)
  have zW : W.heap.size = w.heap.size + 1 + 1 + 1 + 1 := by rw [hW]; simp
  have qb0 : W.heap[w.heap.size]? = some (.cells #[.int .i64 p0x, .slice a0 n0 c0] 54 (0, 0)) := by
    rw [hW]
    have q := heap_alloc_new w (.cells #[.int .i64 p0x, .slice a0 n0 c0] 54)
    (try simp only [World.size_alloc] at q)
    exact (Below.heap_alloc _ _ _ (by first | (simp; done) | (simp; omega))).trans ((Below.heap_alloc _ _ _ (by first | (simp; done) | (simp; omega))).trans ((Below.heap_alloc _ _ _ (by first | (simp; done) | (simp; omega))).trans q))
  have p0a_0 : W.cell? ⟨w.heap.size, 0, none⟩ = some (.int .i64 p0x) := by rw [cell_of_row W _ 0 _ _ (0, 0) qb0]; rfl
  have p0b_0 : W.cell? ⟨w.heap.size, 1, none⟩ = some (.slice a0 n0 c0) := by rw [cell_of_row W _ 1 _ _ (0, 0) qb0]; rfl
  clear qb0
  have qb1 : W.heap[w.heap.size + 1]? = some (.cells #[.int .i64 p1x, .slice a1 n1 c1] 54 (0, 0)) := by
    rw [hW]
    have q := heap_alloc_new (w.alloc (.cells #[.int .i64 p0x, .slice a0 n0 c0] 54)) (.cells #[.int .i64 p1x, .slice a1 n1 c1] 54)
    (try simp only [World.size_alloc] at q)
    exact (Below.heap_alloc _ _ _ (by first | (simp; done) | (simp; omega))).trans ((Below.heap_alloc _ _ _ (by first | (simp; done) | (simp; omega))).trans q)
  have p1a_0 : W.cell? ⟨w.heap.size + 1, 0, none⟩ = some (.int .i64 p1x) := by rw [cell_of_row W _ 0 _ _ (0, 0) qb1]; rfl
  have p1b_0 : W.cell? ⟨w.heap.size + 1, 1, none⟩ = some (.slice a1 n1 c1) := by rw [cell_of_row W _ 1 _ _ (0, 0) qb1]; rfl
  clear qb1
  have qb2 : W.heap[w.heap.size + 1 + 1]? = some (.cells #[.int .i64 p2x, .slice a2 n2 c2] 54 (0, 0)) := by
    rw [hW]
    have q := heap_alloc_new ((w.alloc (.cells #[.int .i64 p0x, .slice a0 n0 c0] 54)).alloc (.cells #[.int .i64 p1x, .slice a1 n1 c1] 54)) (.cells #[.int .i64 p2x, .slice a2 n2 c2] 54)
    (try simp only [World.size_alloc] at q)
    exact (Below.heap_alloc _ _ _ (by first | (simp; done) | (simp; omega))).trans q
  have p2a_0 : W.cell? ⟨w.heap.size + 1 + 1, 0, none⟩ = some (.int .i64 p2x) := by rw [cell_of_row W _ 0 _ _ (0, 0) qb2]; rfl
  have p2b_0 : W.cell? ⟨w.heap.size + 1 + 1, 1, none⟩ = some (.slice a2 n2 c2) := by rw [cell_of_row W _ 1 _ _ (0, 0) qb2]; rfl
  clear qb2
  have qb3 : W.heap[w.heap.size + 1 + 1 + 1]? = some (.cells #[.int .i64 p3x, .slice a3 n3 c3] 54 (0, 0)) := by
    rw [hW]
    have q := heap_alloc_new (((w.alloc (.cells #[.int .i64 p0x, .slice a0 n0 c0] 54)).alloc (.cells #[.int .i64 p1x, .slice a1 n1 c1] 54)).alloc (.cells #[.int .i64 p2x, .slice a2 n2 c2] 54)) (.cells #[.int .i64 p3x, .slice a3 n3 c3] 54)
    (try simp only [World.size_alloc] at q)
    exact q
  have p3a_0 : W.cell? ⟨w.heap.size + 1 + 1 + 1, 0, none⟩ = some (.int .i64 p3x) := by rw [cell_of_row W _ 0 _ _ (0, 0) qb3]; rfl
  have p3b_0 : W.cell? ⟨w.heap.size + 1 + 1 + 1, 1, none⟩ = some (.slice a3 n3 c3) := by rw [cell_of_row W _ 1 _ _ (0, 0) qb3]; rfl
  clear qb3
  by_cases big0 : (1048576 : Int) < (wtot z0 n0 : Nat)
  · go_enter Try.func8, Try.ntmps8
    go_wp2_with fail
    rw [← hW]
    clear hW
    refine (szTable_any _ _ _ z0 _ _ _ hz0 hn0 (by omega) (by omega) (ha0.below B0)).mono ?_
    rintro e v0 ⟨rfl, hv0⟩
    rw [leftOf_no big0]
    have y0 := B0.trans (hv0.mono B0.size)
    go_wp2
    go_ret
    exact ⟨rfl, y0⟩
  have hl0 : ¬ (1048576 : Int) - (wtot z0 n0 : Nat) < 0 := by omega
  have hs0 : SmT z0 n0 := ⟨hz0, by omega⟩
  by_cases big1 : (1048576 : Int) - (wtot z0 n0 : Nat) < (wtot z1 n1 : Nat)
  · go_enter Try.func8, Try.ntmps8
    go_wp2_with fail
    rw [← hW]
    clear hW
    refine (szTable_any _ _ _ z0 _ _ _ hz0 hn0 (by omega) (by omega) (ha0.below B0)).mono ?_
    rintro e v0 ⟨rfl, hv0⟩
    rw [leftOf_yes (by omega)]
    have y0 := B0.trans (hv0.mono B0.size)
    have qp0a_0 := cell_later hv0 p0a_0
    have qp0b_0 := cell_later hv0 p0b_0
    have qp1a_0 := cell_later hv0 p1a_0
    have qp1b_0 := cell_later hv0 p1b_0
    have qp2a_0 := cell_later hv0 p2a_0
    have qp2b_0 := cell_later hv0 p2b_0
    have qp3a_0 := cell_later hv0 p3a_0
    have qp3b_0 := cell_later hv0 p3b_0
    go_wp2_with fail
    refine (szTable_any _ _ _ z1 _ _ _ hz1 hn1 (by omega) (by omega) (ha1.below y0)).mono ?_
    rintro e v1 ⟨rfl, hv1⟩
    rw [leftOf_no big1]
    have y1 := y0.trans (hv1.mono y0.size)
    go_wp2
    go_ret
    exact ⟨rfl, y1⟩
  have hl1 : ¬ (1048576 : Int) - (wtot z0 n0 : Nat) - (wtot z1 n1 : Nat) < 0 := by omega
  have hs1 : SmT z1 n1 := ⟨hz1, by omega⟩
  by_cases big2 : (1048576 : Int) - (wtot z0 n0 : Nat) - (wtot z1 n1 : Nat) < (wtot z2 n2 : Nat)
  · go_enter Try.func8, Try.ntmps8
    go_wp2_with fail
    rw [← hW]
    clear hW
    refine (szTable_any _ _ _ z0 _ _ _ hz0 hn0 (by omega) (by omega) (ha0.below B0)).mono ?_
    rintro e v0 ⟨rfl, hv0⟩
    rw [leftOf_yes (by omega)]
    have y0 := B0.trans (hv0.mono B0.size)
    have qp0a_0 := cell_later hv0 p0a_0
    have qp0b_0 := cell_later hv0 p0b_0
    have qp1a_0 := cell_later hv0 p1a_0
    have qp1b_0 := cell_later hv0 p1b_0
    have qp2a_0 := cell_later hv0 p2a_0
    have qp2b_0 := cell_later hv0 p2b_0
    have qp3a_0 := cell_later hv0 p3a_0
    have qp3b_0 := cell_later hv0 p3b_0
    go_wp2_with fail
    refine (szTable_any _ _ _ z1 _ _ _ hz1 hn1 (by omega) (by omega) (ha1.below y0)).mono ?_
    rintro e v1 ⟨rfl, hv1⟩
    rw [leftOf_yes (by omega)]
    have y1 := y0.trans (hv1.mono y0.size)
    have qp0a_1 := cell_later hv1 qp0a_0
    have qp0b_1 := cell_later hv1 qp0b_0
    have qp1a_1 := cell_later hv1 qp1a_0
    have qp1b_1 := cell_later hv1 qp1b_0
    have qp2a_1 := cell_later hv1 qp2a_0
    have qp2b_1 := cell_later hv1 qp2b_0
    have qp3a_1 := cell_later hv1 qp3a_0
    have qp3b_1 := cell_later hv1 qp3b_0
    go_wp2_with fail
    refine (szTable_any _ _ _ z2 _ _ _ hz2 hn2 (by omega) (by omega) (ha2.below y1)).mono ?_
    rintro e v2 ⟨rfl, hv2⟩
    rw [leftOf_no big2]
    have y2 := y1.trans (hv2.mono y1.size)
    go_wp2
    go_ret
    exact ⟨rfl, y2⟩
  have hl2 : ¬ (1048576 : Int) - (wtot z0 n0 : Nat) - (wtot z1 n1 : Nat) - (wtot z2 n2 : Nat) < 0 := by omega
  have hs2 : SmT z2 n2 := ⟨hz2, by omega⟩
  by_cases big3 : (1048576 : Int) - (wtot z0 n0 : Nat) - (wtot z1 n1 : Nat) - (wtot z2 n2 : Nat) < (wtot z3 n3 : Nat)
  · go_enter Try.func8, Try.ntmps8
    go_wp2_with fail
    rw [← hW]
    clear hW
    refine (szTable_any _ _ _ z0 _ _ _ hz0 hn0 (by omega) (by omega) (ha0.below B0)).mono ?_
    rintro e v0 ⟨rfl, hv0⟩
    rw [leftOf_yes (by omega)]
    have y0 := B0.trans (hv0.mono B0.size)
    have qp0a_0 := cell_later hv0 p0a_0
    have qp0b_0 := cell_later hv0 p0b_0
    have qp1a_0 := cell_later hv0 p1a_0
    have qp1b_0 := cell_later hv0 p1b_0
    have qp2a_0 := cell_later hv0 p2a_0
    have qp2b_0 := cell_later hv0 p2b_0
    have qp3a_0 := cell_later hv0 p3a_0
    have qp3b_0 := cell_later hv0 p3b_0
    go_wp2_with fail
    refine (szTable_any _ _ _ z1 _ _ _ hz1 hn1 (by omega) (by omega) (ha1.below y0)).mono ?_
    rintro e v1 ⟨rfl, hv1⟩
    rw [leftOf_yes (by omega)]
    have y1 := y0.trans (hv1.mono y0.size)
    have qp0a_1 := cell_later hv1 qp0a_0
    have qp0b_1 := cell_later hv1 qp0b_0
    have qp1a_1 := cell_later hv1 qp1a_0
    have qp1b_1 := cell_later hv1 qp1b_0
    have qp2a_1 := cell_later hv1 qp2a_0
    have qp2b_1 := cell_later hv1 qp2b_0
    have qp3a_1 := cell_later hv1 qp3a_0
    have qp3b_1 := cell_later hv1 qp3b_0
    go_wp2_with fail
    refine (szTable_any _ _ _ z2 _ _ _ hz2 hn2 (by omega) (by omega) (ha2.below y1)).mono ?_
    rintro e v2 ⟨rfl, hv2⟩
    rw [leftOf_yes (by omega)]
    have y2 := y1.trans (hv2.mono y1.size)
    have qp0a_2 := cell_later hv2 qp0a_1
    have qp0b_2 := cell_later hv2 qp0b_1
    have qp1a_2 := cell_later hv2 qp1a_1
    have qp1b_2 := cell_later hv2 qp1b_1
    have qp2a_2 := cell_later hv2 qp2a_1
    have qp2b_2 := cell_later hv2 qp2b_1
    have qp3a_2 := cell_later hv2 qp3a_1
    have qp3b_2 := cell_later hv2 qp3b_1
    go_wp2_with fail
    refine (szTable_any _ _ _ z3 _ _ _ hz3 hn3 (by omega) (by omega) (ha3.below y2)).mono ?_
    rintro e v3 ⟨rfl, hv3⟩
    rw [leftOf_no big3]
    have y3 := y2.trans (hv3.mono y2.size)
    go_wp2
    go_ret
    exact ⟨rfl, y3⟩
  have hl3 : ¬ (1048576 : Int) - (wtot z0 n0 : Nat) - (wtot z1 n1 : Nat) - (wtot z2 n2 : Nat) - (wtot z3 n3 : Nat) < 0 := by omega
  have hs3 : SmT z3 n3 := ⟨hz3, by omega⟩
  by_cases big4 : (1048576 : Int) - (wtot z0 n0 : Nat) - (wtot z1 n1 : Nat) - (wtot z2 n2 : Nat) - (wtot z3 n3 : Nat) < (n4 + tot z4 n4 : Nat)
  · go_enter Try.func8, Try.ntmps8
    go_wp2_with fail
    rw [← hW]
    clear hW
    refine (szTable_any _ _ _ z0 _ _ _ hz0 hn0 (by omega) (by omega) (ha0.below B0)).mono ?_
    rintro e v0 ⟨rfl, hv0⟩
    rw [leftOf_yes (by omega)]
    have y0 := B0.trans (hv0.mono B0.size)
    have qp0a_0 := cell_later hv0 p0a_0
    have qp0b_0 := cell_later hv0 p0b_0
    have qp1a_0 := cell_later hv0 p1a_0
    have qp1b_0 := cell_later hv0 p1b_0
    have qp2a_0 := cell_later hv0 p2a_0
    have qp2b_0 := cell_later hv0 p2b_0
    have qp3a_0 := cell_later hv0 p3a_0
    have qp3b_0 := cell_later hv0 p3b_0
    go_wp2_with fail
    refine (szTable_any _ _ _ z1 _ _ _ hz1 hn1 (by omega) (by omega) (ha1.below y0)).mono ?_
    rintro e v1 ⟨rfl, hv1⟩
    rw [leftOf_yes (by omega)]
    have y1 := y0.trans (hv1.mono y0.size)
    have qp0a_1 := cell_later hv1 qp0a_0
    have qp0b_1 := cell_later hv1 qp0b_0
    have qp1a_1 := cell_later hv1 qp1a_0
    have qp1b_1 := cell_later hv1 qp1b_0
    have qp2a_1 := cell_later hv1 qp2a_0
    have qp2b_1 := cell_later hv1 qp2b_0
    have qp3a_1 := cell_later hv1 qp3a_0
    have qp3b_1 := cell_later hv1 qp3b_0
    go_wp2_with fail
    refine (szTable_any _ _ _ z2 _ _ _ hz2 hn2 (by omega) (by omega) (ha2.below y1)).mono ?_
    rintro e v2 ⟨rfl, hv2⟩
    rw [leftOf_yes (by omega)]
    have y2 := y1.trans (hv2.mono y1.size)
    have qp0a_2 := cell_later hv2 qp0a_1
    have qp0b_2 := cell_later hv2 qp0b_1
    have qp1a_2 := cell_later hv2 qp1a_1
    have qp1b_2 := cell_later hv2 qp1b_1
    have qp2a_2 := cell_later hv2 qp2a_1
    have qp2b_2 := cell_later hv2 qp2b_1
    have qp3a_2 := cell_later hv2 qp3a_1
    have qp3b_2 := cell_later hv2 qp3b_1
    go_wp2_with fail
    refine (szTable_any _ _ _ z3 _ _ _ hz3 hn3 (by omega) (by omega) (ha3.below y2)).mono ?_
    rintro e v3 ⟨rfl, hv3⟩
    rw [leftOf_yes (by omega)]
    have y3 := y2.trans (hv3.mono y2.size)
    have qp0a_3 := cell_later hv3 qp0a_2
    have qp0b_3 := cell_later hv3 qp0b_2
    have qp1a_3 := cell_later hv3 qp1a_2
    have qp1b_3 := cell_later hv3 qp1b_2
    have qp2a_3 := cell_later hv3 qp2a_2
    have qp2b_3 := cell_later hv3 qp2b_2
    have qp3a_3 := cell_later hv3 qp3a_2
    have qp3b_3 := cell_later hv3 qp3b_2
    go_wp2_with fail
    refine (szIntSSG _ _ _ z4 _ _ hz4 hn4 (by omega) (by omega) (ha4.below y3)).mono ?_
    rintro e v4 ⟨rfl, hv4⟩
    rw [leftOf_no big4]
    have y4 := y3.trans (hv4.mono y3.size)
    go_wp2
    go_ret
    exact ⟨rfl, y4⟩
  have hl4 : ¬ (1048576 : Int) - (wtot z0 n0 : Nat) - (wtot z1 n1 : Nat) - (wtot z2 n2 : Nat) - (wtot z3 n3 : Nat) - (n4 + tot z4 n4 : Nat) < 0 := by omega
  have hs4 : SmP z4 n4 := ⟨hz4, by omega⟩
  have hx0 := hs0.n
  have hx1 := hs1.n
  have hx2 := hs2.n
  have hx3 := hs3.n
  have hx4 := hs4.n
  obtain ⟨ok, pa, ta, hsA, HS, HI⟩ : ∃ (ok : Bool) (pa : Int) (ta : List WRow), SmT ta ta.length ∧ Hid (∀ (x0 : Option Addr) (y0 lo0 hi0 : Nat) (x1 : Option Addr) (y1 lo1 hi1 : Nat) (x2 : Option Addr) (y2 lo2 hi2 : Nat) (x3 : Option Addr) (y3 lo3 hi3 : Nat) (x4 : Option Addr) (y4 lo4 hi4 : Nat) (w : World), OwnT w lo0 hi0 x0 n0 y0 z0 → OwnT w lo1 hi1 x1 n1 y1 z1 → OwnT w lo2 hi2 x2 n2 y2 z2 → OwnT w lo3 hi3 x3 n3 y3 z3 → OwnP w lo4 hi4 x4 n4 y4 z4 → Calls Try.prog 11 #[.agg #[.int .i64 p0x, .slice x0 n0 y0], .agg #[.int .i64 p1x, .slice x1 n1 y1], .agg #[.int .i64 p2x, .slice x2 n2 y2], .agg #[.int .i64 p3x, .slice x3 n3 y3], .slice x4 n4 y4] w fun e w' => TabRet e w' w.heap.size ok pa ta ∧ Below w.heap.size w w') ∧ Hid (∀ (x0 : Option Addr) (y0 lo0 hi0 : Nat) (x1 : Option Addr) (y1 lo1 hi1 : Nat) (x2 : Option Addr) (y2 lo2 hi2 : Nat) (x3 : Option Addr) (y3 lo3 hi3 : Nat) (x4 : Option Addr) (y4 lo4 hi4 : Nat) (w : World), OwnT w lo0 hi0 x0 n0 y0 z0 → OwnT w lo1 hi1 x1 n1 y1 z1 → OwnT w lo2 hi2 x2 n2 y2 z2 → OwnT w lo3 hi3 x3 n3 y3 z3 → OwnP w lo4 hi4 x4 n4 y4 z4 → Calls Try.prog 10 #[.agg #[.int .i64 p0x, .slice x0 n0 y0], .agg #[.int .i64 p1x, .slice x1 n1 y1], .agg #[.int .i64 p2x, .slice x2 n2 y2], .agg #[.int .i64 p3x, .slice x3 n3 y3], .slice x4 n4 y4] w fun e w' => TabRet e w' w.heap.size ok pa ta ∧ Below w.heap.size w w') := ⟨jdB p0x z0 p1x z1 p2x z2 p3x z3 z4, ansP (jdB p0x z0 p1x z1 p2x z2 p3x z3 z4) (joinC p0x p1x z4), ansT (jdB p0x z0 p1x z1 p2x z2 p3x z3 z4) (jdW z0 z1 z2 z3 z4), ans_small jdB_goodT, fun x0 y0 lo0 hi0 x1 y1 lo1 hi1 x2 y2 lo2 hi2 x3 y3 lo3 hi3 x4 y4 lo4 hi4 w o0 o1 o2 o3 o4 => specJoinDelta x0 x1 x2 x3 x4 n0 n1 n2 n3 n4 y0 y1 y2 y3 y4 z0 z1 z2 z3 z4 p0x p1x p2x p3x w hs0.1 hs1.1 hs2.1 hs3.1 hs4.1 hs0.n hs1.n hs2.n hs3.n hs4.n (o0.atM hs0) (o1.atM hs1) (o2.atM hs2) (o3.atM hs3) (o4.at hs4), fun x0 y0 lo0 hi0 x1 y1 lo1 hi1 x2 y2 lo2 hi2 x3 y3 lo3 hi3 x4 y4 lo4 hi4 w o0 o1 o2 o3 o4 => implJoinDelta x0 x1 x2 x3 x4 n0 n1 n2 n3 n4 y0 y1 y2 y3 y4 z0 z1 z2 z3 z4 p0x p1x p2x p3x w hs0.1 hs1.1 hs2.1 hs3.1 hs4.1 hs0.n hs1.n hs2.n hs3.n hs4.n (o0.atM hs0) (o1.atM hs1) (o2.atM hs2) (o3.atM hs3) (o4.at hs4)⟩
  obtain ⟨na, hna⟩ : ∃ na, ta.length = na := ⟨_, rfl⟩
  rw [hna] at hsA
  have hxA := hsA.n
  have HNA := Hid.mk hna
  clear hna
  have hwA := hsA.2
  go_enter Try.func8, Try.ntmps8
  go_wp2_with fail
  rw [← hW]
  clear hW
  refine (szTable_any _ _ _ z0 _ _ _ hz0 hn0 (by omega) (by omega) (ha0.below B0)).mono ?_
  rintro e w1 ⟨rfl, hb1⟩
  rw [leftOf_yes (by omega)]
  have p0a_1 := cell_later hb1 p0a_0
  have p0b_1 := cell_later hb1 p0b_0
  have p1a_1 := cell_later hb1 p1a_0
  have p1b_1 := cell_later hb1 p1b_0
  have p2a_1 := cell_later hb1 p2a_0
  have p2b_1 := cell_later hb1 p2b_0
  have p3a_1 := cell_later hb1 p3a_0
  have p3b_1 := cell_later hb1 p3b_0
  have B_1 := B0.trans (hb1.mono B0.size)
  have zz1 : W.heap.size ≤ w1.heap.size := by have q := hb1.size; first | exact q | simpa using q
  clear p0a_0 p0b_0 p1a_0 p1b_0 p2a_0 p2b_0 p3a_0 p3b_0
  clear hb1
  go_wp2_with fail
  refine (szTable_any _ _ _ z1 _ _ _ hz1 hn1 (by omega) (by omega) (ha1.below B_1)).mono ?_
  rintro e w2 ⟨rfl, hb2⟩
  rw [leftOf_yes (by omega)]
  have p0a_2 := cell_later hb2 p0a_1
  have p0b_2 := cell_later hb2 p0b_1
  have p1a_2 := cell_later hb2 p1a_1
  have p1b_2 := cell_later hb2 p1b_1
  have p2a_2 := cell_later hb2 p2a_1
  have p2b_2 := cell_later hb2 p2b_1
  have p3a_2 := cell_later hb2 p3a_1
  have p3b_2 := cell_later hb2 p3b_1
  have B_2 := B_1.trans (hb2.mono B_1.size)
  have zz2 : w1.heap.size ≤ w2.heap.size := by have q := hb2.size; first | exact q | simpa using q
  clear p0a_1 p0b_1 p1a_1 p1b_1 p2a_1 p2b_1 p3a_1 p3b_1 B_1
  clear hb2
  go_wp2_with fail
  refine (szTable_any _ _ _ z2 _ _ _ hz2 hn2 (by omega) (by omega) (ha2.below B_2)).mono ?_
  rintro e w3 ⟨rfl, hb3⟩
  rw [leftOf_yes (by omega)]
  have p0a_3 := cell_later hb3 p0a_2
  have p0b_3 := cell_later hb3 p0b_2
  have p1a_3 := cell_later hb3 p1a_2
  have p1b_3 := cell_later hb3 p1b_2
  have p2a_3 := cell_later hb3 p2a_2
  have p2b_3 := cell_later hb3 p2b_2
  have p3a_3 := cell_later hb3 p3a_2
  have p3b_3 := cell_later hb3 p3b_2
  have B_3 := B_2.trans (hb3.mono B_2.size)
  have zz3 : w2.heap.size ≤ w3.heap.size := by have q := hb3.size; first | exact q | simpa using q
  clear p0a_2 p0b_2 p1a_2 p1b_2 p2a_2 p2b_2 p3a_2 p3b_2 B_2
  clear hb3
  go_wp2_with fail
  refine (szTable_any _ _ _ z3 _ _ _ hz3 hn3 (by omega) (by omega) (ha3.below B_3)).mono ?_
  rintro e w4 ⟨rfl, hb4⟩
  rw [leftOf_yes (by omega)]
  have p0a_4 := cell_later hb4 p0a_3
  have p0b_4 := cell_later hb4 p0b_3
  have p1a_4 := cell_later hb4 p1a_3
  have p1b_4 := cell_later hb4 p1b_3
  have p2a_4 := cell_later hb4 p2a_3
  have p2b_4 := cell_later hb4 p2b_3
  have p3a_4 := cell_later hb4 p3a_3
  have p3b_4 := cell_later hb4 p3b_3
  have B_4 := B_3.trans (hb4.mono B_3.size)
  have zz4 : w3.heap.size ≤ w4.heap.size := by have q := hb4.size; first | exact q | simpa using q
  clear p0a_3 p0b_3 p1a_3 p1b_3 p2a_3 p2b_3 p3a_3 p3b_3 B_3
  clear hb4
  go_wp2_with fail
  refine (szIntSSG _ _ _ z4 _ _ hz4 hn4 (by omega) (by omega) (ha4.below B_4)).mono ?_
  rintro e w5 ⟨rfl, hb5⟩
  rw [leftOf_yes (by omega)]
  have p0a_5 := cell_later hb5 p0a_4
  have p0b_5 := cell_later hb5 p0b_4
  have p1a_5 := cell_later hb5 p1a_4
  have p1b_5 := cell_later hb5 p1b_4
  have p2a_5 := cell_later hb5 p2a_4
  have p2b_5 := cell_later hb5 p2b_4
  have p3a_5 := cell_later hb5 p3a_4
  have p3b_5 := cell_later hb5 p3b_4
  have B_5 := B_4.trans (hb5.mono B_4.size)
  have zz5 : w4.heap.size ≤ w5.heap.size := by have q := hb5.size; first | exact q | simpa using q
  clear p0a_4 p0b_4 p1a_4 p1b_4 p2a_4 p2b_4 p3a_4 p3b_4 B_4
  clear hb5
  go_upto_region 17 with fail
  go_cut [12, 13] (fun ta' tb wx => ∃ (Pb : Nat) (r : Option Addr) (m d lo hi : Nat), ta' = .pointer (some ⟨Pb, 0, none⟩) ∧ tb = .bool ok ∧ wx.cell? ⟨Pb, 0, none⟩ = some (.int .i64 pa) ∧ wx.cell? ⟨Pb, 1, none⟩ = some (.slice r m d) ∧ OwnT wx lo hi r m d ta ∧ w5.heap.size ≤ lo ∧ hi ≤ wx.heap.size ∧ w5.heap.size ≤ Pb ∧ Pb < wx.heap.size ∧ (Pb < lo ∨ hi ≤ Pb) ∧ Below w5.heap.size w5 wx)
  case first =>
    refine wp_region_held_drew (S := fun w' => w'.cell? ⟨w.heap.size, 0, none⟩ = some (.int .i64 p0x) ∧ w'.cell? ⟨w.heap.size, 1, none⟩ = some (.slice a0 n0 c0) ∧ w'.cell? ⟨w.heap.size + 1, 0, none⟩ = some (.int .i64 p1x) ∧ w'.cell? ⟨w.heap.size + 1, 1, none⟩ = some (.slice a1 n1 c1) ∧ w'.cell? ⟨w.heap.size + 1 + 1, 0, none⟩ = some (.int .i64 p2x) ∧ w'.cell? ⟨w.heap.size + 1 + 1, 1, none⟩ = some (.slice a2 n2 c2) ∧ w'.cell? ⟨w.heap.size + 1 + 1 + 1, 0, none⟩ = some (.int .i64 p3x) ∧ w'.cell? ⟨w.heap.size + 1 + 1 + 1, 1, none⟩ = some (.slice a3 n3 c3)) (by kernel_rfl) ?_ (fun hHeld => ?_)
    · (try dsimp only)
      exact ⟨p0a_5, p0b_5, p1a_5, p1b_5, p2a_5, p2b_5, p3a_5, p3b_5⟩
    refine wpAnyH_take (i := 0) (oi := ?_) (v := ?_) ?_ (by kernel_rfl) (by kernel_rfl) (by kernel_rfl) ?_ (Or.inl ⟨?_, ?_⟩) (by assumption) ?_
    rotate_left 2
    · (simp only [List.getElem?_toArray, List.getElem?_cons_zero]; rfl)
    · exact fun _ _ _ h => h
    · rfl
    · (intro wS hSw; (try dsimp only at hSw); go_simp; (try with_reducible rfl))
    (try simp only [Act.put, List.setIfInBounds_toArray, List.set_cons_zero, List.set_cons_succ])
    refine wpAnyH_take (i := 2) (oi := ?_) (v := ?_) ?_ (by kernel_rfl) (by kernel_rfl) (by kernel_rfl) ?_ (Or.inl ⟨?_, ?_⟩) (by assumption) ?_
    rotate_left 2
    · (simp only [List.getElem?_toArray, List.getElem?_cons_zero, List.getElem?_cons_succ]; rfl)
    · exact fun _ _ _ h => h
    · rfl
    · (intro wS hSw; (try dsimp only at hSw); go_simp; (try with_reducible rfl))
    (try simp only [Act.put, List.setIfInBounds_toArray, List.set_cons_zero, List.set_cons_succ])
    refine wpAnyH_take (i := 4) (oi := ?_) (v := ?_) ?_ (by kernel_rfl) (by kernel_rfl) (by kernel_rfl) ?_ (Or.inl ⟨?_, ?_⟩) (by assumption) ?_
    rotate_left 2
    · (simp only [List.getElem?_toArray, List.getElem?_cons_zero, List.getElem?_cons_succ]; rfl)
    · exact fun _ _ _ h => h
    · rfl
    · (intro wS hSw; (try dsimp only at hSw); go_simp; (try with_reducible rfl))
    (try simp only [Act.put, List.setIfInBounds_toArray, List.set_cons_zero, List.set_cons_succ])
    refine wpAnyH_take (i := 6) (oi := ?_) (v := ?_) ?_ (by kernel_rfl) (by kernel_rfl) (by kernel_rfl) ?_ (Or.inl ⟨?_, ?_⟩) (by assumption) ?_
    rotate_left 2
    · (simp only [List.getElem?_toArray, List.getElem?_cons_zero, List.getElem?_cons_succ]; rfl)
    · exact fun _ _ _ h => h
    · rfl
    · (intro wS hSw; (try dsimp only at hSw); go_simp; (try with_reducible rfl))
    (try simp only [Act.put, List.setIfInBounds_toArray, List.set_cons_zero, List.set_cons_succ])
    refine wpAnyH_take (i := 8) (oi := ?_) (v := ?_) ?_ (by kernel_rfl) (by kernel_rfl) (by kernel_rfl) ?_ (Or.inl ⟨?_, ?_⟩) (by assumption) ?_
    rotate_left 2
    · (simp only [List.getElem?_toArray, List.getElem?_cons_zero, List.getElem?_cons_succ]; rfl)
    · exact fun _ _ _ h => h
    · rfl
    · (intro wS hSw; (try dsimp only at hSw); go_simp; (try with_reducible rfl))
    (try simp only [Act.put, List.setIfInBounds_toArray, List.set_cons_zero, List.set_cons_succ])
    obtain ⟨w8, hU8⟩ : ∃ u, u = w5.drew := ⟨_, rfl⟩
    have hb8 : Below w5.heap.size w5 w8 := by rw [hU8]; exact (Below.refl _ _).drew
    rw [← hU8]
    clear hU8
    have p0a_8 := cell_later hb8 p0a_5
    have p0b_8 := cell_later hb8 p0b_5
    have p1a_8 := cell_later hb8 p1a_5
    have p1b_8 := cell_later hb8 p1b_5
    have p2a_8 := cell_later hb8 p2a_5
    have p2b_8 := cell_later hb8 p2b_5
    have p3a_8 := cell_later hb8 p3a_5
    have p3b_8 := cell_later hb8 p3b_5
    have B_8 := B_5.trans (hb8.mono B_5.size)
    have Y_8 : Below w5.heap.size w5 w8 := hb8
    have zz8 : w5.heap.size ≤ w8.heap.size := by have q := hb8.size; first | exact q | simpa using q
    refine wpAnyH_ready (rs := [1, 14]) (by kernel_rfl) (by simp) ?_
    refine AllReadyH.cons (o := ?_) ?_ (fun K hK => ?_) ?_
    rotate_left
    · (simp only [List.getElem?_toArray, List.getElem?_cons_zero, List.getElem?_cons_succ]; rfl)
    · go_simp
      go_at_call 34
      refine (toTableG _ _ _ z0 p0x _ hs0 (ha0.below B_8)).mono ?_
      rintro e w9 ⟨g9, rfl, ho9, hb9⟩
      have p0a_9 := cell_later hb9 p0a_8
      have p0b_9 := cell_later hb9 p0b_8
      have p1a_9 := cell_later hb9 p1a_8
      have p1b_9 := cell_later hb9 p1b_8
      have p2a_9 := cell_later hb9 p2a_8
      have p2b_9 := cell_later hb9 p2b_8
      have p3a_9 := cell_later hb9 p3a_8
      have p3b_9 := cell_later hb9 p3b_8
      have B_9 := B_8.trans (hb9.mono B_8.size)
      have Y_9 : Below w5.heap.size w5 w9 := Y_8.trans (hb9.mono Y_8.size)
      have zz9 : w8.heap.size ≤ w9.heap.size := by have q := hb9.size; first | exact q | simpa using q
      (try go_wp2_with fail)
      refine hK.out _ _ ?_ (fun hHeld' => ?_)
      · (try dsimp only)
        exact ⟨p0a_9, p0b_9, p1a_9, p1b_9, p2a_9, p2b_9, p3a_9, p3b_9⟩
      clear hK K hHeld
      have hHeld := hHeld'
      clear hHeld'
      (try simp only [Act.put, List.setIfInBounds_toArray, List.set_cons_zero, List.set_cons_succ])
      refine wpAnyH_ready (rs := [3, 14]) (by kernel_rfl) (by simp) ?_
      refine AllReadyH.cons (o := ?_) ?_ (fun K hK => ?_) ?_
      rotate_left
      · (simp only [List.getElem?_toArray, List.getElem?_cons_zero, List.getElem?_cons_succ]; rfl)
      · go_simp
        go_at_call 34
        refine (toTableG _ _ _ z1 p1x _ hs1 (ha1.below B_9)).mono ?_
        rintro e w10 ⟨g10, rfl, ho10, hb10⟩
        have p0a_10 := cell_later hb10 p0a_9
        have p0b_10 := cell_later hb10 p0b_9
        have p1a_10 := cell_later hb10 p1a_9
        have p1b_10 := cell_later hb10 p1b_9
        have p2a_10 := cell_later hb10 p2a_9
        have p2b_10 := cell_later hb10 p2b_9
        have p3a_10 := cell_later hb10 p3a_9
        have p3b_10 := cell_later hb10 p3b_9
        have t0_10 := ho9.below hb10
        have B_10 := B_9.trans (hb10.mono B_9.size)
        have Y_10 : Below w5.heap.size w5 w10 := Y_9.trans (hb10.mono Y_9.size)
        have zz10 : w9.heap.size ≤ w10.heap.size := by have q := hb10.size; first | exact q | simpa using q
        (try go_wp2_with fail)
        refine hK.out _ _ ?_ (fun hHeld' => ?_)
        · (try dsimp only)
          exact ⟨p0a_10, p0b_10, p1a_10, p1b_10, p2a_10, p2b_10, p3a_10, p3b_10⟩
        clear hK K hHeld
        have hHeld := hHeld'
        clear hHeld'
        (try simp only [Act.put, List.setIfInBounds_toArray, List.set_cons_zero, List.set_cons_succ])
        refine wpAnyH_ready (rs := [5, 14]) (by kernel_rfl) (by simp) ?_
        refine AllReadyH.cons (o := ?_) ?_ (fun K hK => ?_) ?_
        rotate_left
        · (simp only [List.getElem?_toArray, List.getElem?_cons_zero, List.getElem?_cons_succ]; rfl)
        · go_simp
          go_at_call 34
          refine (toTableG _ _ _ z2 p2x _ hs2 (ha2.below B_10)).mono ?_
          rintro e w11 ⟨g11, rfl, ho11, hb11⟩
          have p0a_11 := cell_later hb11 p0a_10
          have p0b_11 := cell_later hb11 p0b_10
          have p1a_11 := cell_later hb11 p1a_10
          have p1b_11 := cell_later hb11 p1b_10
          have p2a_11 := cell_later hb11 p2a_10
          have p2b_11 := cell_later hb11 p2b_10
          have p3a_11 := cell_later hb11 p3a_10
          have p3b_11 := cell_later hb11 p3b_10
          have t0_11 := t0_10.below hb11
          have t1_11 := ho10.below hb11
          have B_11 := B_10.trans (hb11.mono B_10.size)
          have Y_11 : Below w5.heap.size w5 w11 := Y_10.trans (hb11.mono Y_10.size)
          have zz11 : w10.heap.size ≤ w11.heap.size := by have q := hb11.size; first | exact q | simpa using q
          (try go_wp2_with fail)
          refine hK.out _ _ ?_ (fun hHeld' => ?_)
          · (try dsimp only)
            exact ⟨p0a_11, p0b_11, p1a_11, p1b_11, p2a_11, p2b_11, p3a_11, p3b_11⟩
          clear hK K hHeld
          have hHeld := hHeld'
          clear hHeld'
          (try simp only [Act.put, List.setIfInBounds_toArray, List.set_cons_zero, List.set_cons_succ])
          refine wpAnyH_ready (rs := [7, 14]) (by kernel_rfl) (by simp) ?_
          refine AllReadyH.cons (o := ?_) ?_ (fun K hK => ?_) ?_
          rotate_left
          · (simp only [List.getElem?_toArray, List.getElem?_cons_zero, List.getElem?_cons_succ]; rfl)
          · go_simp
            go_at_call 34
            refine (toTableG _ _ _ z3 p3x _ hs3 (ha3.below B_11)).mono ?_
            rintro e w12 ⟨g12, rfl, ho12, hb12⟩
            have p0a_12 := cell_later hb12 p0a_11
            have p0b_12 := cell_later hb12 p0b_11
            have p1a_12 := cell_later hb12 p1a_11
            have p1b_12 := cell_later hb12 p1b_11
            have p2a_12 := cell_later hb12 p2a_11
            have p2b_12 := cell_later hb12 p2b_11
            have p3a_12 := cell_later hb12 p3a_11
            have p3b_12 := cell_later hb12 p3b_11
            have t0_12 := t0_11.below hb12
            have t1_12 := t1_11.below hb12
            have t2_12 := ho11.below hb12
            have B_12 := B_11.trans (hb12.mono B_11.size)
            have Y_12 : Below w5.heap.size w5 w12 := Y_11.trans (hb12.mono Y_11.size)
            have zz12 : w11.heap.size ≤ w12.heap.size := by have q := hb12.size; first | exact q | simpa using q
            (try go_wp2_with fail)
            refine hK.out _ _ ?_ (fun hHeld' => ?_)
            · (try dsimp only)
              exact ⟨p0a_12, p0b_12, p1a_12, p1b_12, p2a_12, p2b_12, p3a_12, p3b_12⟩
            clear hK K hHeld
            have hHeld := hHeld'
            clear hHeld'
            (try simp only [Act.put, List.setIfInBounds_toArray, List.set_cons_zero, List.set_cons_succ])
            refine wpAnyH_ready (rs := [9, 14]) (by kernel_rfl) (by simp) ?_
            refine AllReadyH.cons (o := ?_) ?_ (fun K hK => ?_) ?_
            rotate_left
            · (simp only [List.getElem?_toArray, List.getElem?_cons_zero, List.getElem?_cons_succ]; rfl)
            · go_simp
              go_at_call 35
              refine (toIntSSG _ _ _ z4 _ hs4 (ha4.below B_12)).mono ?_
              rintro e w13 ⟨g13, rfl, ho13, hb13⟩
              have p0a_13 := cell_later hb13 p0a_12
              have p0b_13 := cell_later hb13 p0b_12
              have p1a_13 := cell_later hb13 p1a_12
              have p1b_13 := cell_later hb13 p1b_12
              have p2a_13 := cell_later hb13 p2a_12
              have p2b_13 := cell_later hb13 p2b_12
              have p3a_13 := cell_later hb13 p3a_12
              have p3b_13 := cell_later hb13 p3b_12
              have t0_13 := t0_12.below hb13
              have t1_13 := t1_12.below hb13
              have t2_13 := t2_12.below hb13
              have t3_13 := ho12.below hb13
              have B_13 := B_12.trans (hb13.mono B_12.size)
              have Y_13 : Below w5.heap.size w5 w13 := Y_12.trans (hb13.mono Y_12.size)
              have zz13 : w12.heap.size ≤ w13.heap.size := by have q := hb13.size; first | exact q | simpa using q
              (try go_wp2_with fail)
              refine hK.out _ _ ?_ (fun hHeld' => ?_)
              · (try dsimp only)
                exact ⟨p0a_13, p0b_13, p1a_13, p1b_13, p2a_13, p2b_13, p3a_13, p3b_13⟩
              clear hK K hHeld
              have hHeld := hHeld'
              clear hHeld'
              (try simp only [Act.put, List.setIfInBounds_toArray, List.set_cons_zero, List.set_cons_succ])
              refine wpAnyH_ready (rs := [10, 14]) (by kernel_rfl) (by simp) ?_
              refine AllReadyH.cons (o := ?_) ?_ (fun K hK => ?_) ?_
              rotate_left
              · (simp only [List.getElem?_toArray, List.getElem?_cons_zero, List.getElem?_cons_succ]; rfl)
              · go_simp
                go_at_call 11
                refine (HS.out _ _ _ _ _ _ _ _ _ _ _ _ _ _ _ _ _ _ _ _ _ t0_13 t1_13 t2_13 t3_13 ho13).mono ?_
                rintro e w14 ⟨⟨r14, m14, d14, cs14, rfl, ho14⟩, hb14⟩
                have p0a_14 := cell_later hb14 p0a_13
                have p0b_14 := cell_later hb14 p0b_13
                have p1a_14 := cell_later hb14 p1a_13
                have p1b_14 := cell_later hb14 p1b_13
                have p2a_14 := cell_later hb14 p2a_13
                have p2b_14 := cell_later hb14 p2b_13
                have p3a_14 := cell_later hb14 p3a_13
                have p3b_14 := cell_later hb14 p3b_13
                have B_14 := B_13.trans (hb14.mono B_13.size)
                have Y_14 : Below w5.heap.size w5 w14 := Y_13.trans (hb14.mono Y_13.size)
                have zz14 : w13.heap.size ≤ w14.heap.size := by have q := hb14.size; first | exact q | simpa using q
                (try go_wp2_with fail)
                refine hK.out _ _ ?_ (fun hHeld' => ?_)
                · (try dsimp only)
                  exact ⟨p0a_14, p0b_14, p1a_14, p1b_14, p2a_14, p2b_14, p3a_14, p3b_14⟩
                clear hK K hHeld
                have hHeld := hHeld'
                clear hHeld'
                (try simp only [Act.put, List.setIfInBounds_toArray, List.set_cons_zero, List.set_cons_succ])
                refine wpAnyH_take (i := 11) (oi := ?_) (v := ?_) ?_ (by kernel_rfl) (by kernel_rfl) (by kernel_rfl) ?_ (Or.inl ⟨?_, ?_⟩) (by assumption) ?_
                rotate_left 2
                · (simp only [List.getElem?_toArray, List.getElem?_cons_zero, List.getElem?_cons_succ]; rfl)
                · exact fun _ _ _ h => h
                · rfl
                · (intro wS hSw; (try dsimp only at hSw); go_simp; (try with_reducible rfl))
                (try simp only [Act.put, List.setIfInBounds_toArray, List.set_cons_zero, List.set_cons_succ])
                refine wpAnyH_take (i := 12) (oi := ?_) (v := ?_) ?_ (by kernel_rfl) (by kernel_rfl) (by kernel_rfl) ?_ (Or.inl ⟨?_, ?_⟩) (by assumption) ?_
                rotate_left 2
                · (simp only [List.getElem?_toArray, List.getElem?_cons_zero, List.getElem?_cons_succ]; rfl)
                · exact fun _ _ _ h => h
                · rfl
                · (intro wS hSw; (try dsimp only at hSw); go_simp; (try with_reducible rfl))
                (try simp only [Act.put, List.setIfInBounds_toArray, List.set_cons_zero, List.set_cons_succ])
                refine wpAnyH_take (i := 13) (oi := ?_) (v := ?_) ?_ (by kernel_rfl) (by kernel_rfl) (by kernel_rfl) ?_ (Or.inl ⟨?_, ?_⟩) (by assumption) ?_
                rotate_left 2
                · (simp only [List.getElem?_toArray, List.getElem?_cons_zero, List.getElem?_cons_succ]; rfl)
                · exact fun _ _ _ h => h
                · rfl
                · (intro wS hSw; (try dsimp only at hSw); go_simp; (try with_reducible rfl))
                (try simp only [Act.put, List.setIfInBounds_toArray, List.set_cons_zero, List.set_cons_succ])
                refine wpAnyH_ready (rs := [14]) (by kernel_rfl) (by simp) ?_
                refine AllReadyH.cons (o := ?_) ?_ (fun K hK => ?_) AllReadyH.nil
                rotate_left
                · (simp only [List.getElem?_toArray, List.getElem?_cons_zero, List.getElem?_cons_succ]; rfl)
                go_simp
                skip
                (try go_wp2_with fail)
                refine hK.out _ _ ?_ (fun hHeld' => ?_)
                · (try dsimp only)
                  exact ⟨cell_later ((Below.refl _ _).alloc (Nat.le_refl _) _) p0a_14, cell_later ((Below.refl _ _).alloc (Nat.le_refl _) _) p0b_14, cell_later ((Below.refl _ _).alloc (Nat.le_refl _) _) p1a_14, cell_later ((Below.refl _ _).alloc (Nat.le_refl _) _) p1b_14, cell_later ((Below.refl _ _).alloc (Nat.le_refl _) _) p2a_14, cell_later ((Below.refl _ _).alloc (Nat.le_refl _) _) p2b_14, cell_later ((Below.refl _ _).alloc (Nat.le_refl _) _) p3a_14, cell_later ((Below.refl _ _).alloc (Nat.le_refl _) _) p3b_14⟩
                clear hK K hHeld
                have hHeld := hHeld'
                clear hHeld'
                (try simp only [Act.put, List.setIfInBounds_toArray, List.set_cons_zero, List.set_cons_succ])
                refine wpAnyH_ready (rs := [15]) (by kernel_rfl) (by simp) ?_
                refine AllReadyH.cons (o := ?_) ?_ (fun K hK => ?_) AllReadyH.nil
                rotate_left
                · (simp only [List.getElem?_toArray, List.getElem?_cons_zero, List.getElem?_cons_succ]; rfl)
                go_simp
                skip
                (try go_wp2_with fail)
                refine hK.out _ _ ?_ (fun hHeld' => ?_)
                · (try dsimp only)
                  exact ⟨cell_later ((Below.refl _ _).alloc (Nat.le_refl _) _) p0a_14, cell_later ((Below.refl _ _).alloc (Nat.le_refl _) _) p0b_14, cell_later ((Below.refl _ _).alloc (Nat.le_refl _) _) p1a_14, cell_later ((Below.refl _ _).alloc (Nat.le_refl _) _) p1b_14, cell_later ((Below.refl _ _).alloc (Nat.le_refl _) _) p2a_14, cell_later ((Below.refl _ _).alloc (Nat.le_refl _) _) p2b_14, cell_later ((Below.refl _ _).alloc (Nat.le_refl _) _) p3a_14, cell_later ((Below.refl _ _).alloc (Nat.le_refl _) _) p3b_14⟩
                clear hK K hHeld
                have hHeld := hHeld'
                clear hHeld'
                (try simp only [Act.put, List.setIfInBounds_toArray, List.set_cons_zero, List.set_cons_succ])
                refine wpAnyH_take (i := 16) (oi := ?_) (v := ?_) ?_ (by kernel_rfl) (by kernel_rfl) (by kernel_rfl) ?_ (Or.inl ⟨?_, ?_⟩) (by assumption) ?_
                rotate_left 2
                · (simp only [List.getElem?_toArray, List.getElem?_cons_zero, List.getElem?_cons_succ]; rfl)
                · exact fun _ _ _ h => h
                · rfl
                · (intro wS hSw; (try dsimp only at hSw); go_simp; (try with_reducible rfl))
                (try simp only [Act.put, List.setIfInBounds_toArray, List.set_cons_zero, List.set_cons_succ])
                refine wpAnyH_done (by kernel_rfl) ?_ _
                (try go_wp2_with fail)
                go_meet
                case rel =>
                  have owk : OwnT w14 w13.heap.size w14.heap.size r14 m14 d14 ta := ⟨cs14, ho14⟩
                  exact ⟨w14.heap.size, r14, m14, d14, w13.heap.size, w14.heap.size, rfl, rfl, pair0 w14 _ _ _, pair1 w14 _ _ _, owk.below ((Below.refl _ _).alloc (Nat.le_refl _) _), by omega, by simp, by omega, by simp, .inr (Nat.le_refl _), Y_14.alloc Y_14.size _⟩
              refine AllReadyH.cons (o := ?_) ?_ (fun K hK => ?_) AllReadyH.nil
              rotate_left
              · (simp only [List.getElem?_toArray, List.getElem?_cons_zero, List.getElem?_cons_succ]; rfl)
              · go_simp
                (try go_wp2_with fail)
                refine hK.out _ _ ?_ (fun hHeld' => ?_)
                · (try dsimp only)
                  exact ⟨cell_later ((Below.refl _ _).alloc (Nat.le_refl _) _) p0a_13, cell_later ((Below.refl _ _).alloc (Nat.le_refl _) _) p0b_13, cell_later ((Below.refl _ _).alloc (Nat.le_refl _) _) p1a_13, cell_later ((Below.refl _ _).alloc (Nat.le_refl _) _) p1b_13, cell_later ((Below.refl _ _).alloc (Nat.le_refl _) _) p2a_13, cell_later ((Below.refl _ _).alloc (Nat.le_refl _) _) p2b_13, cell_later ((Below.refl _ _).alloc (Nat.le_refl _) _) p3a_13, cell_later ((Below.refl _ _).alloc (Nat.le_refl _) _) p3b_13⟩
                clear hK K hHeld
                have hHeld := hHeld'
                clear hHeld'
                (try simp only [Act.put, List.setIfInBounds_toArray, List.set_cons_zero, List.set_cons_succ])
                obtain ⟨w14, hU14⟩ : ∃ u, u = w13.alloc (.cells #[.int .i64 0, .slice none 0 0] 25) := ⟨_, rfl⟩
                have hb14 : Below w13.heap.size w13 w14 := by rw [hU14]; exact (Below.refl _ _).alloc (Nat.le_refl _) _
                have zp14 : w14.heap.size = w13.heap.size + 1 := by rw [hU14]; simp
                have hp14 : w14.heap[w13.heap.size]? = some (.cells #[.int .i64 0, .slice none 0 0] 25 (0, 0)) := by rw [hU14]; exact heap_alloc_new _ _
                rw [← hU14]
                clear hU14
                have p0a_14 := cell_later hb14 p0a_13
                have p0b_14 := cell_later hb14 p0b_13
                have p1a_14 := cell_later hb14 p1a_13
                have p1b_14 := cell_later hb14 p1b_13
                have p2a_14 := cell_later hb14 p2a_13
                have p2b_14 := cell_later hb14 p2b_13
                have p3a_14 := cell_later hb14 p3a_13
                have p3b_14 := cell_later hb14 p3b_13
                have t0_14 := t0_13.below hb14
                have t1_14 := t1_13.below hb14
                have t2_14 := t2_13.below hb14
                have t3_14 := t3_13.below hb14
                have t4_14 := ho13.below hb14
                have B_14 := B_13.trans (hb14.mono B_13.size)
                have Y_14 : Below w5.heap.size w5 w14 := Y_13.trans (hb14.mono Y_13.size)
                have zz14 : w13.heap.size ≤ w14.heap.size := by have q := hb14.size; first | exact q | simpa using q
                refine wpAnyH_ready (rs := [10]) (by kernel_rfl) (by simp) ?_
                refine AllReadyH.cons (o := ?_) ?_ (fun K hK => ?_) AllReadyH.nil
                rotate_left
                · (simp only [List.getElem?_toArray, List.getElem?_cons_zero, List.getElem?_cons_succ]; rfl)
                go_simp
                go_at_call 11
                refine (HS.out _ _ _ _ _ _ _ _ _ _ _ _ _ _ _ _ _ _ _ _ _ t0_14 t1_14 t2_14 t3_14 t4_14).mono ?_
                rintro e w15 ⟨⟨r15, m15, d15, cs15, rfl, ho15⟩, hb15⟩
                have p0a_15 := cell_later hb15 p0a_14
                have p0b_15 := cell_later hb15 p0b_14
                have p1a_15 := cell_later hb15 p1a_14
                have p1b_15 := cell_later hb15 p1b_14
                have p2a_15 := cell_later hb15 p2a_14
                have p2b_15 := cell_later hb15 p2b_14
                have p3a_15 := cell_later hb15 p3a_14
                have p3b_15 := cell_later hb15 p3b_14
                have hq15 := (hb15.block (w13.heap.size) (Array.getElem?_eq_some_iff.1 hp14).1).trans hp14
                have B_15 := B_14.trans (hb15.mono B_14.size)
                have Y_15 : Below w5.heap.size w5 w15 := Y_14.trans (hb15.mono Y_14.size)
                have zz15 : w14.heap.size ≤ w15.heap.size := by have q := hb15.size; first | exact q | simpa using q
                (try go_wp2_with fail)
                refine hK.out _ _ ?_ (fun hHeld' => ?_)
                · (try dsimp only)
                  exact ⟨p0a_15, p0b_15, p1a_15, p1b_15, p2a_15, p2b_15, p3a_15, p3b_15⟩
                clear hK K hHeld
                have hHeld := hHeld'
                clear hHeld'
                (try simp only [Act.put, List.setIfInBounds_toArray, List.set_cons_zero, List.set_cons_succ])
                refine wpAnyH_take (i := 11) (oi := ?_) (v := ?_) ?_ (by kernel_rfl) (by kernel_rfl) (by kernel_rfl) ?_ (Or.inl ⟨?_, ?_⟩) (by assumption) ?_
                rotate_left 2
                · (simp only [List.getElem?_toArray, List.getElem?_cons_zero, List.getElem?_cons_succ]; rfl)
                · exact fun _ _ _ h => h
                · rfl
                · (intro wS hSw; (try dsimp only at hSw); go_simp; (try with_reducible rfl))
                (try simp only [Act.put, List.setIfInBounds_toArray, List.set_cons_zero, List.set_cons_succ])
                refine wpAnyH_take (i := 12) (oi := ?_) (v := ?_) ?_ (by kernel_rfl) (by kernel_rfl) (by kernel_rfl) ?_ (Or.inl ⟨?_, ?_⟩) (by assumption) ?_
                rotate_left 2
                · (simp only [List.getElem?_toArray, List.getElem?_cons_zero, List.getElem?_cons_succ]; rfl)
                · exact fun _ _ _ h => h
                · rfl
                · (intro wS hSw; (try dsimp only at hSw); go_simp; (try with_reducible rfl))
                (try simp only [Act.put, List.setIfInBounds_toArray, List.set_cons_zero, List.set_cons_succ])
                refine wpAnyH_take (i := 13) (oi := ?_) (v := ?_) ?_ (by kernel_rfl) (by kernel_rfl) (by kernel_rfl) ?_ (Or.inl ⟨?_, ?_⟩) (by assumption) ?_
                rotate_left 2
                · (simp only [List.getElem?_toArray, List.getElem?_cons_zero, List.getElem?_cons_succ]; rfl)
                · exact fun _ _ _ h => h
                · rfl
                · (intro wS hSw; (try dsimp only at hSw); go_simp; (try with_reducible rfl))
                (try simp only [Act.put, List.setIfInBounds_toArray, List.set_cons_zero, List.set_cons_succ])
                have u0 : w15.cell? ⟨w13.heap.size, 0, none⟩ = some (.int .i64 0) := by rw [cell_of_row _ _ 0 _ _ (0, 0) hq15]; rfl
                have u1 : w15.cell? ⟨w13.heap.size, 1, none⟩ = some (.slice none 0 0) := by rw [cell_of_row _ _ 1 _ _ (0, 0) hq15]; rfl
                have v0 : w15.frozen? ⟨w13.heap.size, 0, none⟩ = false := frozen_of_row _ _ 0 _ _ hq15
                have v1 : w15.frozen? ⟨w13.heap.size, 1, none⟩ = false := frozen_of_row _ _ 1 _ _ hq15
                refine wpAnyH_ready (rs := [15]) (by kernel_rfl) (by simp) ?_
                refine AllReadyH.cons (o := ?_) ?_ (fun K hK => ?_) AllReadyH.nil
                rotate_left
                · (simp only [List.getElem?_toArray, List.getElem?_cons_zero, List.getElem?_cons_succ]; rfl)
                go_simp
                skip
                (try go_wp2_with fail)
                refine hK.out _ _ ?_ (fun hHeld' => ?_)
                · (try dsimp only)
                  exact ⟨keep_far (keep_far p0a_15 (by omega)) (by omega), keep_far (keep_far p0b_15 (by omega)) (by omega), keep_far (keep_far p1a_15 (by omega)) (by omega), keep_far (keep_far p1b_15 (by omega)) (by omega), keep_far (keep_far p2a_15 (by omega)) (by omega), keep_far (keep_far p2b_15 (by omega)) (by omega), keep_far (keep_far p3a_15 (by omega)) (by omega), keep_far (keep_far p3b_15 (by omega)) (by omega)⟩
                clear hK K hHeld
                have hHeld := hHeld'
                clear hHeld'
                (try simp only [Act.put, List.setIfInBounds_toArray, List.set_cons_zero, List.set_cons_succ])
                refine wpAnyH_take (i := 16) (oi := ?_) (v := ?_) ?_ (by kernel_rfl) (by kernel_rfl) (by kernel_rfl) ?_ (Or.inl ⟨?_, ?_⟩) (by assumption) ?_
                rotate_left 2
                · (simp only [List.getElem?_toArray, List.getElem?_cons_zero, List.getElem?_cons_succ]; rfl)
                · exact fun _ _ _ h => h
                · rfl
                · (intro wS hSw; (try dsimp only at hSw); go_simp; (try with_reducible rfl))
                (try simp only [Act.put, List.setIfInBounds_toArray, List.set_cons_zero, List.set_cons_succ])
                refine wpAnyH_done (by kernel_rfl) ?_ _
                (try go_wp2_with fail)
                go_meet
                case rel =>
                  have owk : OwnT w15 w14.heap.size w15.heap.size r15 m15 d15 ta := ⟨cs15, ho15⟩
                  exact ⟨w13.heap.size, r15, m15, d15, w14.heap.size, w15.heap.size, rfl, rfl, set2_0 hq15 _ _, set2_1 hq15 _ _, owk.set2 (.inl (by omega)) _ _, by omega, by simp [World.setCell], by omega, by simp only [World.setCell, Array.size_modify]; omega, .inl (by omega), (Y_15.setCell (by show w5.heap.size ≤ w13.heap.size; omega) _).setCell (by show w5.heap.size ≤ w13.heap.size; omega) _⟩
            refine AllReadyH.cons (o := ?_) ?_ (fun K hK => ?_) AllReadyH.nil
            rotate_left
            · (simp only [List.getElem?_toArray, List.getElem?_cons_zero, List.getElem?_cons_succ]; rfl)
            · go_simp
              (try go_wp2_with fail)
              refine hK.out _ _ ?_ (fun hHeld' => ?_)
              · (try dsimp only)
                exact ⟨cell_later ((Below.refl _ _).alloc (Nat.le_refl _) _) p0a_12, cell_later ((Below.refl _ _).alloc (Nat.le_refl _) _) p0b_12, cell_later ((Below.refl _ _).alloc (Nat.le_refl _) _) p1a_12, cell_later ((Below.refl _ _).alloc (Nat.le_refl _) _) p1b_12, cell_later ((Below.refl _ _).alloc (Nat.le_refl _) _) p2a_12, cell_later ((Below.refl _ _).alloc (Nat.le_refl _) _) p2b_12, cell_later ((Below.refl _ _).alloc (Nat.le_refl _) _) p3a_12, cell_later ((Below.refl _ _).alloc (Nat.le_refl _) _) p3b_12⟩
              clear hK K hHeld
              have hHeld := hHeld'
              clear hHeld'
              (try simp only [Act.put, List.setIfInBounds_toArray, List.set_cons_zero, List.set_cons_succ])
              obtain ⟨w13, hU13⟩ : ∃ u, u = w12.alloc (.cells #[.int .i64 0, .slice none 0 0] 25) := ⟨_, rfl⟩
              have hb13 : Below w12.heap.size w12 w13 := by rw [hU13]; exact (Below.refl _ _).alloc (Nat.le_refl _) _
              have zp13 : w13.heap.size = w12.heap.size + 1 := by rw [hU13]; simp
              have hp13 : w13.heap[w12.heap.size]? = some (.cells #[.int .i64 0, .slice none 0 0] 25 (0, 0)) := by rw [hU13]; exact heap_alloc_new _ _
              rw [← hU13]
              clear hU13
              have p0a_13 := cell_later hb13 p0a_12
              have p0b_13 := cell_later hb13 p0b_12
              have p1a_13 := cell_later hb13 p1a_12
              have p1b_13 := cell_later hb13 p1b_12
              have p2a_13 := cell_later hb13 p2a_12
              have p2b_13 := cell_later hb13 p2b_12
              have p3a_13 := cell_later hb13 p3a_12
              have p3b_13 := cell_later hb13 p3b_12
              have t0_13 := t0_12.below hb13
              have t1_13 := t1_12.below hb13
              have t2_13 := t2_12.below hb13
              have t3_13 := ho12.below hb13
              have B_13 := B_12.trans (hb13.mono B_12.size)
              have Y_13 : Below w5.heap.size w5 w13 := Y_12.trans (hb13.mono Y_12.size)
              have zz13 : w12.heap.size ≤ w13.heap.size := by have q := hb13.size; first | exact q | simpa using q
              refine wpAnyH_ready (rs := [9]) (by kernel_rfl) (by simp) ?_
              refine AllReadyH.cons (o := ?_) ?_ (fun K hK => ?_) AllReadyH.nil
              rotate_left
              · (simp only [List.getElem?_toArray, List.getElem?_cons_zero, List.getElem?_cons_succ]; rfl)
              go_simp
              go_at_call 35
              refine (toIntSSG _ _ _ z4 _ hs4 (ha4.below B_13)).mono ?_
              rintro e w14 ⟨g14, rfl, ho14, hb14⟩
              have p0a_14 := cell_later hb14 p0a_13
              have p0b_14 := cell_later hb14 p0b_13
              have p1a_14 := cell_later hb14 p1a_13
              have p1b_14 := cell_later hb14 p1b_13
              have p2a_14 := cell_later hb14 p2a_13
              have p2b_14 := cell_later hb14 p2b_13
              have p3a_14 := cell_later hb14 p3a_13
              have p3b_14 := cell_later hb14 p3b_13
              have t0_14 := t0_13.below hb14
              have t1_14 := t1_13.below hb14
              have t2_14 := t2_13.below hb14
              have t3_14 := t3_13.below hb14
              have hq14 := (hb14.block (w12.heap.size) (Array.getElem?_eq_some_iff.1 hp13).1).trans hp13
              have B_14 := B_13.trans (hb14.mono B_13.size)
              have Y_14 : Below w5.heap.size w5 w14 := Y_13.trans (hb14.mono Y_13.size)
              have zz14 : w13.heap.size ≤ w14.heap.size := by have q := hb14.size; first | exact q | simpa using q
              (try go_wp2_with fail)
              refine hK.out _ _ ?_ (fun hHeld' => ?_)
              · (try dsimp only)
                exact ⟨p0a_14, p0b_14, p1a_14, p1b_14, p2a_14, p2b_14, p3a_14, p3b_14⟩
              clear hK K hHeld
              have hHeld := hHeld'
              clear hHeld'
              (try simp only [Act.put, List.setIfInBounds_toArray, List.set_cons_zero, List.set_cons_succ])
              refine wpAnyH_ready (rs := [10]) (by kernel_rfl) (by simp) ?_
              refine AllReadyH.cons (o := ?_) ?_ (fun K hK => ?_) AllReadyH.nil
              rotate_left
              · (simp only [List.getElem?_toArray, List.getElem?_cons_zero, List.getElem?_cons_succ]; rfl)
              go_simp
              go_at_call 11
              refine (HS.out _ _ _ _ _ _ _ _ _ _ _ _ _ _ _ _ _ _ _ _ _ t0_14 t1_14 t2_14 t3_14 ho14).mono ?_
              rintro e w15 ⟨⟨r15, m15, d15, cs15, rfl, ho15⟩, hb15⟩
              have p0a_15 := cell_later hb15 p0a_14
              have p0b_15 := cell_later hb15 p0b_14
              have p1a_15 := cell_later hb15 p1a_14
              have p1b_15 := cell_later hb15 p1b_14
              have p2a_15 := cell_later hb15 p2a_14
              have p2b_15 := cell_later hb15 p2b_14
              have p3a_15 := cell_later hb15 p3a_14
              have p3b_15 := cell_later hb15 p3b_14
              have hq15 := (hb15.block (w12.heap.size) (Array.getElem?_eq_some_iff.1 hq14).1).trans hq14
              have B_15 := B_14.trans (hb15.mono B_14.size)
              have Y_15 : Below w5.heap.size w5 w15 := Y_14.trans (hb15.mono Y_14.size)
              have zz15 : w14.heap.size ≤ w15.heap.size := by have q := hb15.size; first | exact q | simpa using q
              (try go_wp2_with fail)
              refine hK.out _ _ ?_ (fun hHeld' => ?_)
              · (try dsimp only)
                exact ⟨p0a_15, p0b_15, p1a_15, p1b_15, p2a_15, p2b_15, p3a_15, p3b_15⟩
              clear hK K hHeld
              have hHeld := hHeld'
              clear hHeld'
              (try simp only [Act.put, List.setIfInBounds_toArray, List.set_cons_zero, List.set_cons_succ])
              refine wpAnyH_take (i := 11) (oi := ?_) (v := ?_) ?_ (by kernel_rfl) (by kernel_rfl) (by kernel_rfl) ?_ (Or.inl ⟨?_, ?_⟩) (by assumption) ?_
              rotate_left 2
              · (simp only [List.getElem?_toArray, List.getElem?_cons_zero, List.getElem?_cons_succ]; rfl)
              · exact fun _ _ _ h => h
              · rfl
              · (intro wS hSw; (try dsimp only at hSw); go_simp; (try with_reducible rfl))
              (try simp only [Act.put, List.setIfInBounds_toArray, List.set_cons_zero, List.set_cons_succ])
              refine wpAnyH_take (i := 12) (oi := ?_) (v := ?_) ?_ (by kernel_rfl) (by kernel_rfl) (by kernel_rfl) ?_ (Or.inl ⟨?_, ?_⟩) (by assumption) ?_
              rotate_left 2
              · (simp only [List.getElem?_toArray, List.getElem?_cons_zero, List.getElem?_cons_succ]; rfl)
              · exact fun _ _ _ h => h
              · rfl
              · (intro wS hSw; (try dsimp only at hSw); go_simp; (try with_reducible rfl))
              (try simp only [Act.put, List.setIfInBounds_toArray, List.set_cons_zero, List.set_cons_succ])
              refine wpAnyH_take (i := 13) (oi := ?_) (v := ?_) ?_ (by kernel_rfl) (by kernel_rfl) (by kernel_rfl) ?_ (Or.inl ⟨?_, ?_⟩) (by assumption) ?_
              rotate_left 2
              · (simp only [List.getElem?_toArray, List.getElem?_cons_zero, List.getElem?_cons_succ]; rfl)
              · exact fun _ _ _ h => h
              · rfl
              · (intro wS hSw; (try dsimp only at hSw); go_simp; (try with_reducible rfl))
              (try simp only [Act.put, List.setIfInBounds_toArray, List.set_cons_zero, List.set_cons_succ])
              have u0 : w15.cell? ⟨w12.heap.size, 0, none⟩ = some (.int .i64 0) := by rw [cell_of_row _ _ 0 _ _ (0, 0) hq15]; rfl
              have u1 : w15.cell? ⟨w12.heap.size, 1, none⟩ = some (.slice none 0 0) := by rw [cell_of_row _ _ 1 _ _ (0, 0) hq15]; rfl
              have v0 : w15.frozen? ⟨w12.heap.size, 0, none⟩ = false := frozen_of_row _ _ 0 _ _ hq15
              have v1 : w15.frozen? ⟨w12.heap.size, 1, none⟩ = false := frozen_of_row _ _ 1 _ _ hq15
              refine wpAnyH_ready (rs := [15]) (by kernel_rfl) (by simp) ?_
              refine AllReadyH.cons (o := ?_) ?_ (fun K hK => ?_) AllReadyH.nil
              rotate_left
              · (simp only [List.getElem?_toArray, List.getElem?_cons_zero, List.getElem?_cons_succ]; rfl)
              go_simp
              skip
              (try go_wp2_with fail)
              refine hK.out _ _ ?_ (fun hHeld' => ?_)
              · (try dsimp only)
                exact ⟨keep_far (keep_far p0a_15 (by omega)) (by omega), keep_far (keep_far p0b_15 (by omega)) (by omega), keep_far (keep_far p1a_15 (by omega)) (by omega), keep_far (keep_far p1b_15 (by omega)) (by omega), keep_far (keep_far p2a_15 (by omega)) (by omega), keep_far (keep_far p2b_15 (by omega)) (by omega), keep_far (keep_far p3a_15 (by omega)) (by omega), keep_far (keep_far p3b_15 (by omega)) (by omega)⟩
              clear hK K hHeld
              have hHeld := hHeld'
              clear hHeld'
              (try simp only [Act.put, List.setIfInBounds_toArray, List.set_cons_zero, List.set_cons_succ])
              refine wpAnyH_take (i := 16) (oi := ?_) (v := ?_) ?_ (by kernel_rfl) (by kernel_rfl) (by kernel_rfl) ?_ (Or.inl ⟨?_, ?_⟩) (by assumption) ?_
              rotate_left 2
              · (simp only [List.getElem?_toArray, List.getElem?_cons_zero, List.getElem?_cons_succ]; rfl)
              · exact fun _ _ _ h => h
              · rfl
              · (intro wS hSw; (try dsimp only at hSw); go_simp; (try with_reducible rfl))
              (try simp only [Act.put, List.setIfInBounds_toArray, List.set_cons_zero, List.set_cons_succ])
              refine wpAnyH_done (by kernel_rfl) ?_ _
              (try go_wp2_with fail)
              go_meet
              case rel =>
                have owk : OwnT w15 w14.heap.size w15.heap.size r15 m15 d15 ta := ⟨cs15, ho15⟩
                exact ⟨w12.heap.size, r15, m15, d15, w14.heap.size, w15.heap.size, rfl, rfl, set2_0 hq15 _ _, set2_1 hq15 _ _, owk.set2 (.inl (by omega)) _ _, by omega, by simp [World.setCell], by omega, by simp only [World.setCell, Array.size_modify]; omega, .inl (by omega), (Y_15.setCell (by show w5.heap.size ≤ w12.heap.size; omega) _).setCell (by show w5.heap.size ≤ w12.heap.size; omega) _⟩
          refine AllReadyH.cons (o := ?_) ?_ (fun K hK => ?_) AllReadyH.nil
          rotate_left
          · (simp only [List.getElem?_toArray, List.getElem?_cons_zero, List.getElem?_cons_succ]; rfl)
          · go_simp
            (try go_wp2_with fail)
            refine hK.out _ _ ?_ (fun hHeld' => ?_)
            · (try dsimp only)
              exact ⟨cell_later ((Below.refl _ _).alloc (Nat.le_refl _) _) p0a_11, cell_later ((Below.refl _ _).alloc (Nat.le_refl _) _) p0b_11, cell_later ((Below.refl _ _).alloc (Nat.le_refl _) _) p1a_11, cell_later ((Below.refl _ _).alloc (Nat.le_refl _) _) p1b_11, cell_later ((Below.refl _ _).alloc (Nat.le_refl _) _) p2a_11, cell_later ((Below.refl _ _).alloc (Nat.le_refl _) _) p2b_11, cell_later ((Below.refl _ _).alloc (Nat.le_refl _) _) p3a_11, cell_later ((Below.refl _ _).alloc (Nat.le_refl _) _) p3b_11⟩
            clear hK K hHeld
            have hHeld := hHeld'
            clear hHeld'
            (try simp only [Act.put, List.setIfInBounds_toArray, List.set_cons_zero, List.set_cons_succ])
            obtain ⟨w12, hU12⟩ : ∃ u, u = w11.alloc (.cells #[.int .i64 0, .slice none 0 0] 25) := ⟨_, rfl⟩
            have hb12 : Below w11.heap.size w11 w12 := by rw [hU12]; exact (Below.refl _ _).alloc (Nat.le_refl _) _
            have zp12 : w12.heap.size = w11.heap.size + 1 := by rw [hU12]; simp
            have hp12 : w12.heap[w11.heap.size]? = some (.cells #[.int .i64 0, .slice none 0 0] 25 (0, 0)) := by rw [hU12]; exact heap_alloc_new _ _
            rw [← hU12]
            clear hU12
            have p0a_12 := cell_later hb12 p0a_11
            have p0b_12 := cell_later hb12 p0b_11
            have p1a_12 := cell_later hb12 p1a_11
            have p1b_12 := cell_later hb12 p1b_11
            have p2a_12 := cell_later hb12 p2a_11
            have p2b_12 := cell_later hb12 p2b_11
            have p3a_12 := cell_later hb12 p3a_11
            have p3b_12 := cell_later hb12 p3b_11
            have t0_12 := t0_11.below hb12
            have t1_12 := t1_11.below hb12
            have t2_12 := ho11.below hb12
            have B_12 := B_11.trans (hb12.mono B_11.size)
            have Y_12 : Below w5.heap.size w5 w12 := Y_11.trans (hb12.mono Y_11.size)
            have zz12 : w11.heap.size ≤ w12.heap.size := by have q := hb12.size; first | exact q | simpa using q
            refine wpAnyH_ready (rs := [7]) (by kernel_rfl) (by simp) ?_
            refine AllReadyH.cons (o := ?_) ?_ (fun K hK => ?_) AllReadyH.nil
            rotate_left
            · (simp only [List.getElem?_toArray, List.getElem?_cons_zero, List.getElem?_cons_succ]; rfl)
            go_simp
            go_at_call 34
            refine (toTableG _ _ _ z3 p3x _ hs3 (ha3.below B_12)).mono ?_
            rintro e w13 ⟨g13, rfl, ho13, hb13⟩
            have p0a_13 := cell_later hb13 p0a_12
            have p0b_13 := cell_later hb13 p0b_12
            have p1a_13 := cell_later hb13 p1a_12
            have p1b_13 := cell_later hb13 p1b_12
            have p2a_13 := cell_later hb13 p2a_12
            have p2b_13 := cell_later hb13 p2b_12
            have p3a_13 := cell_later hb13 p3a_12
            have p3b_13 := cell_later hb13 p3b_12
            have t0_13 := t0_12.below hb13
            have t1_13 := t1_12.below hb13
            have t2_13 := t2_12.below hb13
            have hq13 := (hb13.block (w11.heap.size) (Array.getElem?_eq_some_iff.1 hp12).1).trans hp12
            have B_13 := B_12.trans (hb13.mono B_12.size)
            have Y_13 : Below w5.heap.size w5 w13 := Y_12.trans (hb13.mono Y_12.size)
            have zz13 : w12.heap.size ≤ w13.heap.size := by have q := hb13.size; first | exact q | simpa using q
            (try go_wp2_with fail)
            refine hK.out _ _ ?_ (fun hHeld' => ?_)
            · (try dsimp only)
              exact ⟨p0a_13, p0b_13, p1a_13, p1b_13, p2a_13, p2b_13, p3a_13, p3b_13⟩
            clear hK K hHeld
            have hHeld := hHeld'
            clear hHeld'
            (try simp only [Act.put, List.setIfInBounds_toArray, List.set_cons_zero, List.set_cons_succ])
            refine wpAnyH_ready (rs := [9]) (by kernel_rfl) (by simp) ?_
            refine AllReadyH.cons (o := ?_) ?_ (fun K hK => ?_) AllReadyH.nil
            rotate_left
            · (simp only [List.getElem?_toArray, List.getElem?_cons_zero, List.getElem?_cons_succ]; rfl)
            go_simp
            go_at_call 35
            refine (toIntSSG _ _ _ z4 _ hs4 (ha4.below B_13)).mono ?_
            rintro e w14 ⟨g14, rfl, ho14, hb14⟩
            have p0a_14 := cell_later hb14 p0a_13
            have p0b_14 := cell_later hb14 p0b_13
            have p1a_14 := cell_later hb14 p1a_13
            have p1b_14 := cell_later hb14 p1b_13
            have p2a_14 := cell_later hb14 p2a_13
            have p2b_14 := cell_later hb14 p2b_13
            have p3a_14 := cell_later hb14 p3a_13
            have p3b_14 := cell_later hb14 p3b_13
            have t0_14 := t0_13.below hb14
            have t1_14 := t1_13.below hb14
            have t2_14 := t2_13.below hb14
            have t3_14 := ho13.below hb14
            have hq14 := (hb14.block (w11.heap.size) (Array.getElem?_eq_some_iff.1 hq13).1).trans hq13
            have B_14 := B_13.trans (hb14.mono B_13.size)
            have Y_14 : Below w5.heap.size w5 w14 := Y_13.trans (hb14.mono Y_13.size)
            have zz14 : w13.heap.size ≤ w14.heap.size := by have q := hb14.size; first | exact q | simpa using q
            (try go_wp2_with fail)
            refine hK.out _ _ ?_ (fun hHeld' => ?_)
            · (try dsimp only)
              exact ⟨p0a_14, p0b_14, p1a_14, p1b_14, p2a_14, p2b_14, p3a_14, p3b_14⟩
            clear hK K hHeld
            have hHeld := hHeld'
            clear hHeld'
            (try simp only [Act.put, List.setIfInBounds_toArray, List.set_cons_zero, List.set_cons_succ])
            refine wpAnyH_ready (rs := [10]) (by kernel_rfl) (by simp) ?_
            refine AllReadyH.cons (o := ?_) ?_ (fun K hK => ?_) AllReadyH.nil
            rotate_left
            · (simp only [List.getElem?_toArray, List.getElem?_cons_zero, List.getElem?_cons_succ]; rfl)
            go_simp
            go_at_call 11
            refine (HS.out _ _ _ _ _ _ _ _ _ _ _ _ _ _ _ _ _ _ _ _ _ t0_14 t1_14 t2_14 t3_14 ho14).mono ?_
            rintro e w15 ⟨⟨r15, m15, d15, cs15, rfl, ho15⟩, hb15⟩
            have p0a_15 := cell_later hb15 p0a_14
            have p0b_15 := cell_later hb15 p0b_14
            have p1a_15 := cell_later hb15 p1a_14
            have p1b_15 := cell_later hb15 p1b_14
            have p2a_15 := cell_later hb15 p2a_14
            have p2b_15 := cell_later hb15 p2b_14
            have p3a_15 := cell_later hb15 p3a_14
            have p3b_15 := cell_later hb15 p3b_14
            have hq15 := (hb15.block (w11.heap.size) (Array.getElem?_eq_some_iff.1 hq14).1).trans hq14
            have B_15 := B_14.trans (hb15.mono B_14.size)
            have Y_15 : Below w5.heap.size w5 w15 := Y_14.trans (hb15.mono Y_14.size)
            have zz15 : w14.heap.size ≤ w15.heap.size := by have q := hb15.size; first | exact q | simpa using q
            (try go_wp2_with fail)
            refine hK.out _ _ ?_ (fun hHeld' => ?_)
            · (try dsimp only)
              exact ⟨p0a_15, p0b_15, p1a_15, p1b_15, p2a_15, p2b_15, p3a_15, p3b_15⟩
            clear hK K hHeld
            have hHeld := hHeld'
            clear hHeld'
            (try simp only [Act.put, List.setIfInBounds_toArray, List.set_cons_zero, List.set_cons_succ])
            refine wpAnyH_take (i := 11) (oi := ?_) (v := ?_) ?_ (by kernel_rfl) (by kernel_rfl) (by kernel_rfl) ?_ (Or.inl ⟨?_, ?_⟩) (by assumption) ?_
            rotate_left 2
            · (simp only [List.getElem?_toArray, List.getElem?_cons_zero, List.getElem?_cons_succ]; rfl)
            · exact fun _ _ _ h => h
            · rfl
            · (intro wS hSw; (try dsimp only at hSw); go_simp; (try with_reducible rfl))
            (try simp only [Act.put, List.setIfInBounds_toArray, List.set_cons_zero, List.set_cons_succ])
            refine wpAnyH_take (i := 12) (oi := ?_) (v := ?_) ?_ (by kernel_rfl) (by kernel_rfl) (by kernel_rfl) ?_ (Or.inl ⟨?_, ?_⟩) (by assumption) ?_
            rotate_left 2
            · (simp only [List.getElem?_toArray, List.getElem?_cons_zero, List.getElem?_cons_succ]; rfl)
            · exact fun _ _ _ h => h
            · rfl
            · (intro wS hSw; (try dsimp only at hSw); go_simp; (try with_reducible rfl))
            (try simp only [Act.put, List.setIfInBounds_toArray, List.set_cons_zero, List.set_cons_succ])
            refine wpAnyH_take (i := 13) (oi := ?_) (v := ?_) ?_ (by kernel_rfl) (by kernel_rfl) (by kernel_rfl) ?_ (Or.inl ⟨?_, ?_⟩) (by assumption) ?_
            rotate_left 2
            · (simp only [List.getElem?_toArray, List.getElem?_cons_zero, List.getElem?_cons_succ]; rfl)
            · exact fun _ _ _ h => h
            · rfl
            · (intro wS hSw; (try dsimp only at hSw); go_simp; (try with_reducible rfl))
            (try simp only [Act.put, List.setIfInBounds_toArray, List.set_cons_zero, List.set_cons_succ])
            have u0 : w15.cell? ⟨w11.heap.size, 0, none⟩ = some (.int .i64 0) := by rw [cell_of_row _ _ 0 _ _ (0, 0) hq15]; rfl
            have u1 : w15.cell? ⟨w11.heap.size, 1, none⟩ = some (.slice none 0 0) := by rw [cell_of_row _ _ 1 _ _ (0, 0) hq15]; rfl
            have v0 : w15.frozen? ⟨w11.heap.size, 0, none⟩ = false := frozen_of_row _ _ 0 _ _ hq15
            have v1 : w15.frozen? ⟨w11.heap.size, 1, none⟩ = false := frozen_of_row _ _ 1 _ _ hq15
            refine wpAnyH_ready (rs := [15]) (by kernel_rfl) (by simp) ?_
            refine AllReadyH.cons (o := ?_) ?_ (fun K hK => ?_) AllReadyH.nil
            rotate_left
            · (simp only [List.getElem?_toArray, List.getElem?_cons_zero, List.getElem?_cons_succ]; rfl)
            go_simp
            skip
            (try go_wp2_with fail)
            refine hK.out _ _ ?_ (fun hHeld' => ?_)
            · (try dsimp only)
              exact ⟨keep_far (keep_far p0a_15 (by omega)) (by omega), keep_far (keep_far p0b_15 (by omega)) (by omega), keep_far (keep_far p1a_15 (by omega)) (by omega), keep_far (keep_far p1b_15 (by omega)) (by omega), keep_far (keep_far p2a_15 (by omega)) (by omega), keep_far (keep_far p2b_15 (by omega)) (by omega), keep_far (keep_far p3a_15 (by omega)) (by omega), keep_far (keep_far p3b_15 (by omega)) (by omega)⟩
            clear hK K hHeld
            have hHeld := hHeld'
            clear hHeld'
            (try simp only [Act.put, List.setIfInBounds_toArray, List.set_cons_zero, List.set_cons_succ])
            refine wpAnyH_take (i := 16) (oi := ?_) (v := ?_) ?_ (by kernel_rfl) (by kernel_rfl) (by kernel_rfl) ?_ (Or.inl ⟨?_, ?_⟩) (by assumption) ?_
            rotate_left 2
            · (simp only [List.getElem?_toArray, List.getElem?_cons_zero, List.getElem?_cons_succ]; rfl)
            · exact fun _ _ _ h => h
            · rfl
            · (intro wS hSw; (try dsimp only at hSw); go_simp; (try with_reducible rfl))
            (try simp only [Act.put, List.setIfInBounds_toArray, List.set_cons_zero, List.set_cons_succ])
            refine wpAnyH_done (by kernel_rfl) ?_ _
            (try go_wp2_with fail)
            go_meet
            case rel =>
              have owk : OwnT w15 w14.heap.size w15.heap.size r15 m15 d15 ta := ⟨cs15, ho15⟩
              exact ⟨w11.heap.size, r15, m15, d15, w14.heap.size, w15.heap.size, rfl, rfl, set2_0 hq15 _ _, set2_1 hq15 _ _, owk.set2 (.inl (by omega)) _ _, by omega, by simp [World.setCell], by omega, by simp only [World.setCell, Array.size_modify]; omega, .inl (by omega), (Y_15.setCell (by show w5.heap.size ≤ w11.heap.size; omega) _).setCell (by show w5.heap.size ≤ w11.heap.size; omega) _⟩
        refine AllReadyH.cons (o := ?_) ?_ (fun K hK => ?_) AllReadyH.nil
        rotate_left
        · (simp only [List.getElem?_toArray, List.getElem?_cons_zero, List.getElem?_cons_succ]; rfl)
        · go_simp
          (try go_wp2_with fail)
          refine hK.out _ _ ?_ (fun hHeld' => ?_)
          · (try dsimp only)
            exact ⟨cell_later ((Below.refl _ _).alloc (Nat.le_refl _) _) p0a_10, cell_later ((Below.refl _ _).alloc (Nat.le_refl _) _) p0b_10, cell_later ((Below.refl _ _).alloc (Nat.le_refl _) _) p1a_10, cell_later ((Below.refl _ _).alloc (Nat.le_refl _) _) p1b_10, cell_later ((Below.refl _ _).alloc (Nat.le_refl _) _) p2a_10, cell_later ((Below.refl _ _).alloc (Nat.le_refl _) _) p2b_10, cell_later ((Below.refl _ _).alloc (Nat.le_refl _) _) p3a_10, cell_later ((Below.refl _ _).alloc (Nat.le_refl _) _) p3b_10⟩
          clear hK K hHeld
          have hHeld := hHeld'
          clear hHeld'
          (try simp only [Act.put, List.setIfInBounds_toArray, List.set_cons_zero, List.set_cons_succ])
          obtain ⟨w11, hU11⟩ : ∃ u, u = w10.alloc (.cells #[.int .i64 0, .slice none 0 0] 25) := ⟨_, rfl⟩
          have hb11 : Below w10.heap.size w10 w11 := by rw [hU11]; exact (Below.refl _ _).alloc (Nat.le_refl _) _
          have zp11 : w11.heap.size = w10.heap.size + 1 := by rw [hU11]; simp
          have hp11 : w11.heap[w10.heap.size]? = some (.cells #[.int .i64 0, .slice none 0 0] 25 (0, 0)) := by rw [hU11]; exact heap_alloc_new _ _
          rw [← hU11]
          clear hU11
          have p0a_11 := cell_later hb11 p0a_10
          have p0b_11 := cell_later hb11 p0b_10
          have p1a_11 := cell_later hb11 p1a_10
          have p1b_11 := cell_later hb11 p1b_10
          have p2a_11 := cell_later hb11 p2a_10
          have p2b_11 := cell_later hb11 p2b_10
          have p3a_11 := cell_later hb11 p3a_10
          have p3b_11 := cell_later hb11 p3b_10
          have t0_11 := t0_10.below hb11
          have t1_11 := ho10.below hb11
          have B_11 := B_10.trans (hb11.mono B_10.size)
          have Y_11 : Below w5.heap.size w5 w11 := Y_10.trans (hb11.mono Y_10.size)
          have zz11 : w10.heap.size ≤ w11.heap.size := by have q := hb11.size; first | exact q | simpa using q
          refine wpAnyH_ready (rs := [5]) (by kernel_rfl) (by simp) ?_
          refine AllReadyH.cons (o := ?_) ?_ (fun K hK => ?_) AllReadyH.nil
          rotate_left
          · (simp only [List.getElem?_toArray, List.getElem?_cons_zero, List.getElem?_cons_succ]; rfl)
          go_simp
          go_at_call 34
          refine (toTableG _ _ _ z2 p2x _ hs2 (ha2.below B_11)).mono ?_
          rintro e w12 ⟨g12, rfl, ho12, hb12⟩
          have p0a_12 := cell_later hb12 p0a_11
          have p0b_12 := cell_later hb12 p0b_11
          have p1a_12 := cell_later hb12 p1a_11
          have p1b_12 := cell_later hb12 p1b_11
          have p2a_12 := cell_later hb12 p2a_11
          have p2b_12 := cell_later hb12 p2b_11
          have p3a_12 := cell_later hb12 p3a_11
          have p3b_12 := cell_later hb12 p3b_11
          have t0_12 := t0_11.below hb12
          have t1_12 := t1_11.below hb12
          have hq12 := (hb12.block (w10.heap.size) (Array.getElem?_eq_some_iff.1 hp11).1).trans hp11
          have B_12 := B_11.trans (hb12.mono B_11.size)
          have Y_12 : Below w5.heap.size w5 w12 := Y_11.trans (hb12.mono Y_11.size)
          have zz12 : w11.heap.size ≤ w12.heap.size := by have q := hb12.size; first | exact q | simpa using q
          (try go_wp2_with fail)
          refine hK.out _ _ ?_ (fun hHeld' => ?_)
          · (try dsimp only)
            exact ⟨p0a_12, p0b_12, p1a_12, p1b_12, p2a_12, p2b_12, p3a_12, p3b_12⟩
          clear hK K hHeld
          have hHeld := hHeld'
          clear hHeld'
          (try simp only [Act.put, List.setIfInBounds_toArray, List.set_cons_zero, List.set_cons_succ])
          refine wpAnyH_ready (rs := [7]) (by kernel_rfl) (by simp) ?_
          refine AllReadyH.cons (o := ?_) ?_ (fun K hK => ?_) AllReadyH.nil
          rotate_left
          · (simp only [List.getElem?_toArray, List.getElem?_cons_zero, List.getElem?_cons_succ]; rfl)
          go_simp
          go_at_call 34
          refine (toTableG _ _ _ z3 p3x _ hs3 (ha3.below B_12)).mono ?_
          rintro e w13 ⟨g13, rfl, ho13, hb13⟩
          have p0a_13 := cell_later hb13 p0a_12
          have p0b_13 := cell_later hb13 p0b_12
          have p1a_13 := cell_later hb13 p1a_12
          have p1b_13 := cell_later hb13 p1b_12
          have p2a_13 := cell_later hb13 p2a_12
          have p2b_13 := cell_later hb13 p2b_12
          have p3a_13 := cell_later hb13 p3a_12
          have p3b_13 := cell_later hb13 p3b_12
          have t0_13 := t0_12.below hb13
          have t1_13 := t1_12.below hb13
          have t2_13 := ho12.below hb13
          have hq13 := (hb13.block (w10.heap.size) (Array.getElem?_eq_some_iff.1 hq12).1).trans hq12
          have B_13 := B_12.trans (hb13.mono B_12.size)
          have Y_13 : Below w5.heap.size w5 w13 := Y_12.trans (hb13.mono Y_12.size)
          have zz13 : w12.heap.size ≤ w13.heap.size := by have q := hb13.size; first | exact q | simpa using q
          (try go_wp2_with fail)
          refine hK.out _ _ ?_ (fun hHeld' => ?_)
          · (try dsimp only)
            exact ⟨p0a_13, p0b_13, p1a_13, p1b_13, p2a_13, p2b_13, p3a_13, p3b_13⟩
          clear hK K hHeld
          have hHeld := hHeld'
          clear hHeld'
          (try simp only [Act.put, List.setIfInBounds_toArray, List.set_cons_zero, List.set_cons_succ])
          refine wpAnyH_ready (rs := [9]) (by kernel_rfl) (by simp) ?_
          refine AllReadyH.cons (o := ?_) ?_ (fun K hK => ?_) AllReadyH.nil
          rotate_left
          · (simp only [List.getElem?_toArray, List.getElem?_cons_zero, List.getElem?_cons_succ]; rfl)
          go_simp
          go_at_call 35
          refine (toIntSSG _ _ _ z4 _ hs4 (ha4.below B_13)).mono ?_
          rintro e w14 ⟨g14, rfl, ho14, hb14⟩
          have p0a_14 := cell_later hb14 p0a_13
          have p0b_14 := cell_later hb14 p0b_13
          have p1a_14 := cell_later hb14 p1a_13
          have p1b_14 := cell_later hb14 p1b_13
          have p2a_14 := cell_later hb14 p2a_13
          have p2b_14 := cell_later hb14 p2b_13
          have p3a_14 := cell_later hb14 p3a_13
          have p3b_14 := cell_later hb14 p3b_13
          have t0_14 := t0_13.below hb14
          have t1_14 := t1_13.below hb14
          have t2_14 := t2_13.below hb14
          have t3_14 := ho13.below hb14
          have hq14 := (hb14.block (w10.heap.size) (Array.getElem?_eq_some_iff.1 hq13).1).trans hq13
          have B_14 := B_13.trans (hb14.mono B_13.size)
          have Y_14 : Below w5.heap.size w5 w14 := Y_13.trans (hb14.mono Y_13.size)
          have zz14 : w13.heap.size ≤ w14.heap.size := by have q := hb14.size; first | exact q | simpa using q
          (try go_wp2_with fail)
          refine hK.out _ _ ?_ (fun hHeld' => ?_)
          · (try dsimp only)
            exact ⟨p0a_14, p0b_14, p1a_14, p1b_14, p2a_14, p2b_14, p3a_14, p3b_14⟩
          clear hK K hHeld
          have hHeld := hHeld'
          clear hHeld'
          (try simp only [Act.put, List.setIfInBounds_toArray, List.set_cons_zero, List.set_cons_succ])
          refine wpAnyH_ready (rs := [10]) (by kernel_rfl) (by simp) ?_
          refine AllReadyH.cons (o := ?_) ?_ (fun K hK => ?_) AllReadyH.nil
          rotate_left
          · (simp only [List.getElem?_toArray, List.getElem?_cons_zero, List.getElem?_cons_succ]; rfl)
          go_simp
          go_at_call 11
          refine (HS.out _ _ _ _ _ _ _ _ _ _ _ _ _ _ _ _ _ _ _ _ _ t0_14 t1_14 t2_14 t3_14 ho14).mono ?_
          rintro e w15 ⟨⟨r15, m15, d15, cs15, rfl, ho15⟩, hb15⟩
          have p0a_15 := cell_later hb15 p0a_14
          have p0b_15 := cell_later hb15 p0b_14
          have p1a_15 := cell_later hb15 p1a_14
          have p1b_15 := cell_later hb15 p1b_14
          have p2a_15 := cell_later hb15 p2a_14
          have p2b_15 := cell_later hb15 p2b_14
          have p3a_15 := cell_later hb15 p3a_14
          have p3b_15 := cell_later hb15 p3b_14
          have hq15 := (hb15.block (w10.heap.size) (Array.getElem?_eq_some_iff.1 hq14).1).trans hq14
          have B_15 := B_14.trans (hb15.mono B_14.size)
          have Y_15 : Below w5.heap.size w5 w15 := Y_14.trans (hb15.mono Y_14.size)
          have zz15 : w14.heap.size ≤ w15.heap.size := by have q := hb15.size; first | exact q | simpa using q
          (try go_wp2_with fail)
          refine hK.out _ _ ?_ (fun hHeld' => ?_)
          · (try dsimp only)
            exact ⟨p0a_15, p0b_15, p1a_15, p1b_15, p2a_15, p2b_15, p3a_15, p3b_15⟩
          clear hK K hHeld
          have hHeld := hHeld'
          clear hHeld'
          (try simp only [Act.put, List.setIfInBounds_toArray, List.set_cons_zero, List.set_cons_succ])
          refine wpAnyH_take (i := 11) (oi := ?_) (v := ?_) ?_ (by kernel_rfl) (by kernel_rfl) (by kernel_rfl) ?_ (Or.inl ⟨?_, ?_⟩) (by assumption) ?_
          rotate_left 2
          · (simp only [List.getElem?_toArray, List.getElem?_cons_zero, List.getElem?_cons_succ]; rfl)
          · exact fun _ _ _ h => h
          · rfl
          · (intro wS hSw; (try dsimp only at hSw); go_simp; (try with_reducible rfl))
          (try simp only [Act.put, List.setIfInBounds_toArray, List.set_cons_zero, List.set_cons_succ])
          refine wpAnyH_take (i := 12) (oi := ?_) (v := ?_) ?_ (by kernel_rfl) (by kernel_rfl) (by kernel_rfl) ?_ (Or.inl ⟨?_, ?_⟩) (by assumption) ?_
          rotate_left 2
          · (simp only [List.getElem?_toArray, List.getElem?_cons_zero, List.getElem?_cons_succ]; rfl)
          · exact fun _ _ _ h => h
          · rfl
          · (intro wS hSw; (try dsimp only at hSw); go_simp; (try with_reducible rfl))
          (try simp only [Act.put, List.setIfInBounds_toArray, List.set_cons_zero, List.set_cons_succ])
          refine wpAnyH_take (i := 13) (oi := ?_) (v := ?_) ?_ (by kernel_rfl) (by kernel_rfl) (by kernel_rfl) ?_ (Or.inl ⟨?_, ?_⟩) (by assumption) ?_
          rotate_left 2
          · (simp only [List.getElem?_toArray, List.getElem?_cons_zero, List.getElem?_cons_succ]; rfl)
          · exact fun _ _ _ h => h
          · rfl
          · (intro wS hSw; (try dsimp only at hSw); go_simp; (try with_reducible rfl))
          (try simp only [Act.put, List.setIfInBounds_toArray, List.set_cons_zero, List.set_cons_succ])
          have u0 : w15.cell? ⟨w10.heap.size, 0, none⟩ = some (.int .i64 0) := by rw [cell_of_row _ _ 0 _ _ (0, 0) hq15]; rfl
          have u1 : w15.cell? ⟨w10.heap.size, 1, none⟩ = some (.slice none 0 0) := by rw [cell_of_row _ _ 1 _ _ (0, 0) hq15]; rfl
          have v0 : w15.frozen? ⟨w10.heap.size, 0, none⟩ = false := frozen_of_row _ _ 0 _ _ hq15
          have v1 : w15.frozen? ⟨w10.heap.size, 1, none⟩ = false := frozen_of_row _ _ 1 _ _ hq15
          refine wpAnyH_ready (rs := [15]) (by kernel_rfl) (by simp) ?_
          refine AllReadyH.cons (o := ?_) ?_ (fun K hK => ?_) AllReadyH.nil
          rotate_left
          · (simp only [List.getElem?_toArray, List.getElem?_cons_zero, List.getElem?_cons_succ]; rfl)
          go_simp
          skip
          (try go_wp2_with fail)
          refine hK.out _ _ ?_ (fun hHeld' => ?_)
          · (try dsimp only)
            exact ⟨keep_far (keep_far p0a_15 (by omega)) (by omega), keep_far (keep_far p0b_15 (by omega)) (by omega), keep_far (keep_far p1a_15 (by omega)) (by omega), keep_far (keep_far p1b_15 (by omega)) (by omega), keep_far (keep_far p2a_15 (by omega)) (by omega), keep_far (keep_far p2b_15 (by omega)) (by omega), keep_far (keep_far p3a_15 (by omega)) (by omega), keep_far (keep_far p3b_15 (by omega)) (by omega)⟩
          clear hK K hHeld
          have hHeld := hHeld'
          clear hHeld'
          (try simp only [Act.put, List.setIfInBounds_toArray, List.set_cons_zero, List.set_cons_succ])
          refine wpAnyH_take (i := 16) (oi := ?_) (v := ?_) ?_ (by kernel_rfl) (by kernel_rfl) (by kernel_rfl) ?_ (Or.inl ⟨?_, ?_⟩) (by assumption) ?_
          rotate_left 2
          · (simp only [List.getElem?_toArray, List.getElem?_cons_zero, List.getElem?_cons_succ]; rfl)
          · exact fun _ _ _ h => h
          · rfl
          · (intro wS hSw; (try dsimp only at hSw); go_simp; (try with_reducible rfl))
          (try simp only [Act.put, List.setIfInBounds_toArray, List.set_cons_zero, List.set_cons_succ])
          refine wpAnyH_done (by kernel_rfl) ?_ _
          (try go_wp2_with fail)
          go_meet
          case rel =>
            have owk : OwnT w15 w14.heap.size w15.heap.size r15 m15 d15 ta := ⟨cs15, ho15⟩
            exact ⟨w10.heap.size, r15, m15, d15, w14.heap.size, w15.heap.size, rfl, rfl, set2_0 hq15 _ _, set2_1 hq15 _ _, owk.set2 (.inl (by omega)) _ _, by omega, by simp [World.setCell], by omega, by simp only [World.setCell, Array.size_modify]; omega, .inl (by omega), (Y_15.setCell (by show w5.heap.size ≤ w10.heap.size; omega) _).setCell (by show w5.heap.size ≤ w10.heap.size; omega) _⟩
      refine AllReadyH.cons (o := ?_) ?_ (fun K hK => ?_) AllReadyH.nil
      rotate_left
      · (simp only [List.getElem?_toArray, List.getElem?_cons_zero, List.getElem?_cons_succ]; rfl)
      · go_simp
        (try go_wp2_with fail)
        refine hK.out _ _ ?_ (fun hHeld' => ?_)
        · (try dsimp only)
          exact ⟨cell_later ((Below.refl _ _).alloc (Nat.le_refl _) _) p0a_9, cell_later ((Below.refl _ _).alloc (Nat.le_refl _) _) p0b_9, cell_later ((Below.refl _ _).alloc (Nat.le_refl _) _) p1a_9, cell_later ((Below.refl _ _).alloc (Nat.le_refl _) _) p1b_9, cell_later ((Below.refl _ _).alloc (Nat.le_refl _) _) p2a_9, cell_later ((Below.refl _ _).alloc (Nat.le_refl _) _) p2b_9, cell_later ((Below.refl _ _).alloc (Nat.le_refl _) _) p3a_9, cell_later ((Below.refl _ _).alloc (Nat.le_refl _) _) p3b_9⟩
        clear hK K hHeld
        have hHeld := hHeld'
        clear hHeld'
        (try simp only [Act.put, List.setIfInBounds_toArray, List.set_cons_zero, List.set_cons_succ])
        obtain ⟨w10, hU10⟩ : ∃ u, u = w9.alloc (.cells #[.int .i64 0, .slice none 0 0] 25) := ⟨_, rfl⟩
        have hb10 : Below w9.heap.size w9 w10 := by rw [hU10]; exact (Below.refl _ _).alloc (Nat.le_refl _) _
        have zp10 : w10.heap.size = w9.heap.size + 1 := by rw [hU10]; simp
        have hp10 : w10.heap[w9.heap.size]? = some (.cells #[.int .i64 0, .slice none 0 0] 25 (0, 0)) := by rw [hU10]; exact heap_alloc_new _ _
        rw [← hU10]
        clear hU10
        have p0a_10 := cell_later hb10 p0a_9
        have p0b_10 := cell_later hb10 p0b_9
        have p1a_10 := cell_later hb10 p1a_9
        have p1b_10 := cell_later hb10 p1b_9
        have p2a_10 := cell_later hb10 p2a_9
        have p2b_10 := cell_later hb10 p2b_9
        have p3a_10 := cell_later hb10 p3a_9
        have p3b_10 := cell_later hb10 p3b_9
        have t0_10 := ho9.below hb10
        have B_10 := B_9.trans (hb10.mono B_9.size)
        have Y_10 : Below w5.heap.size w5 w10 := Y_9.trans (hb10.mono Y_9.size)
        have zz10 : w9.heap.size ≤ w10.heap.size := by have q := hb10.size; first | exact q | simpa using q
        refine wpAnyH_ready (rs := [3]) (by kernel_rfl) (by simp) ?_
        refine AllReadyH.cons (o := ?_) ?_ (fun K hK => ?_) AllReadyH.nil
        rotate_left
        · (simp only [List.getElem?_toArray, List.getElem?_cons_zero, List.getElem?_cons_succ]; rfl)
        go_simp
        go_at_call 34
        refine (toTableG _ _ _ z1 p1x _ hs1 (ha1.below B_10)).mono ?_
        rintro e w11 ⟨g11, rfl, ho11, hb11⟩
        have p0a_11 := cell_later hb11 p0a_10
        have p0b_11 := cell_later hb11 p0b_10
        have p1a_11 := cell_later hb11 p1a_10
        have p1b_11 := cell_later hb11 p1b_10
        have p2a_11 := cell_later hb11 p2a_10
        have p2b_11 := cell_later hb11 p2b_10
        have p3a_11 := cell_later hb11 p3a_10
        have p3b_11 := cell_later hb11 p3b_10
        have t0_11 := t0_10.below hb11
        have hq11 := (hb11.block (w9.heap.size) (Array.getElem?_eq_some_iff.1 hp10).1).trans hp10
        have B_11 := B_10.trans (hb11.mono B_10.size)
        have Y_11 : Below w5.heap.size w5 w11 := Y_10.trans (hb11.mono Y_10.size)
        have zz11 : w10.heap.size ≤ w11.heap.size := by have q := hb11.size; first | exact q | simpa using q
        (try go_wp2_with fail)
        refine hK.out _ _ ?_ (fun hHeld' => ?_)
        · (try dsimp only)
          exact ⟨p0a_11, p0b_11, p1a_11, p1b_11, p2a_11, p2b_11, p3a_11, p3b_11⟩
        clear hK K hHeld
        have hHeld := hHeld'
        clear hHeld'
        (try simp only [Act.put, List.setIfInBounds_toArray, List.set_cons_zero, List.set_cons_succ])
        refine wpAnyH_ready (rs := [5]) (by kernel_rfl) (by simp) ?_
        refine AllReadyH.cons (o := ?_) ?_ (fun K hK => ?_) AllReadyH.nil
        rotate_left
        · (simp only [List.getElem?_toArray, List.getElem?_cons_zero, List.getElem?_cons_succ]; rfl)
        go_simp
        go_at_call 34
        refine (toTableG _ _ _ z2 p2x _ hs2 (ha2.below B_11)).mono ?_
        rintro e w12 ⟨g12, rfl, ho12, hb12⟩
        have p0a_12 := cell_later hb12 p0a_11
        have p0b_12 := cell_later hb12 p0b_11
        have p1a_12 := cell_later hb12 p1a_11
        have p1b_12 := cell_later hb12 p1b_11
        have p2a_12 := cell_later hb12 p2a_11
        have p2b_12 := cell_later hb12 p2b_11
        have p3a_12 := cell_later hb12 p3a_11
        have p3b_12 := cell_later hb12 p3b_11
        have t0_12 := t0_11.below hb12
        have t1_12 := ho11.below hb12
        have hq12 := (hb12.block (w9.heap.size) (Array.getElem?_eq_some_iff.1 hq11).1).trans hq11
        have B_12 := B_11.trans (hb12.mono B_11.size)
        have Y_12 : Below w5.heap.size w5 w12 := Y_11.trans (hb12.mono Y_11.size)
        have zz12 : w11.heap.size ≤ w12.heap.size := by have q := hb12.size; first | exact q | simpa using q
        (try go_wp2_with fail)
        refine hK.out _ _ ?_ (fun hHeld' => ?_)
        · (try dsimp only)
          exact ⟨p0a_12, p0b_12, p1a_12, p1b_12, p2a_12, p2b_12, p3a_12, p3b_12⟩
        clear hK K hHeld
        have hHeld := hHeld'
        clear hHeld'
        (try simp only [Act.put, List.setIfInBounds_toArray, List.set_cons_zero, List.set_cons_succ])
        refine wpAnyH_ready (rs := [7]) (by kernel_rfl) (by simp) ?_
        refine AllReadyH.cons (o := ?_) ?_ (fun K hK => ?_) AllReadyH.nil
        rotate_left
        · (simp only [List.getElem?_toArray, List.getElem?_cons_zero, List.getElem?_cons_succ]; rfl)
        go_simp
        go_at_call 34
        refine (toTableG _ _ _ z3 p3x _ hs3 (ha3.below B_12)).mono ?_
        rintro e w13 ⟨g13, rfl, ho13, hb13⟩
        have p0a_13 := cell_later hb13 p0a_12
        have p0b_13 := cell_later hb13 p0b_12
        have p1a_13 := cell_later hb13 p1a_12
        have p1b_13 := cell_later hb13 p1b_12
        have p2a_13 := cell_later hb13 p2a_12
        have p2b_13 := cell_later hb13 p2b_12
        have p3a_13 := cell_later hb13 p3a_12
        have p3b_13 := cell_later hb13 p3b_12
        have t0_13 := t0_12.below hb13
        have t1_13 := t1_12.below hb13
        have t2_13 := ho12.below hb13
        have hq13 := (hb13.block (w9.heap.size) (Array.getElem?_eq_some_iff.1 hq12).1).trans hq12
        have B_13 := B_12.trans (hb13.mono B_12.size)
        have Y_13 : Below w5.heap.size w5 w13 := Y_12.trans (hb13.mono Y_12.size)
        have zz13 : w12.heap.size ≤ w13.heap.size := by have q := hb13.size; first | exact q | simpa using q
        (try go_wp2_with fail)
        refine hK.out _ _ ?_ (fun hHeld' => ?_)
        · (try dsimp only)
          exact ⟨p0a_13, p0b_13, p1a_13, p1b_13, p2a_13, p2b_13, p3a_13, p3b_13⟩
        clear hK K hHeld
        have hHeld := hHeld'
        clear hHeld'
        (try simp only [Act.put, List.setIfInBounds_toArray, List.set_cons_zero, List.set_cons_succ])
        refine wpAnyH_ready (rs := [9]) (by kernel_rfl) (by simp) ?_
        refine AllReadyH.cons (o := ?_) ?_ (fun K hK => ?_) AllReadyH.nil
        rotate_left
        · (simp only [List.getElem?_toArray, List.getElem?_cons_zero, List.getElem?_cons_succ]; rfl)
        go_simp
        go_at_call 35
        refine (toIntSSG _ _ _ z4 _ hs4 (ha4.below B_13)).mono ?_
        rintro e w14 ⟨g14, rfl, ho14, hb14⟩
        have p0a_14 := cell_later hb14 p0a_13
        have p0b_14 := cell_later hb14 p0b_13
        have p1a_14 := cell_later hb14 p1a_13
        have p1b_14 := cell_later hb14 p1b_13
        have p2a_14 := cell_later hb14 p2a_13
        have p2b_14 := cell_later hb14 p2b_13
        have p3a_14 := cell_later hb14 p3a_13
        have p3b_14 := cell_later hb14 p3b_13
        have t0_14 := t0_13.below hb14
        have t1_14 := t1_13.below hb14
        have t2_14 := t2_13.below hb14
        have t3_14 := ho13.below hb14
        have hq14 := (hb14.block (w9.heap.size) (Array.getElem?_eq_some_iff.1 hq13).1).trans hq13
        have B_14 := B_13.trans (hb14.mono B_13.size)
        have Y_14 : Below w5.heap.size w5 w14 := Y_13.trans (hb14.mono Y_13.size)
        have zz14 : w13.heap.size ≤ w14.heap.size := by have q := hb14.size; first | exact q | simpa using q
        (try go_wp2_with fail)
        refine hK.out _ _ ?_ (fun hHeld' => ?_)
        · (try dsimp only)
          exact ⟨p0a_14, p0b_14, p1a_14, p1b_14, p2a_14, p2b_14, p3a_14, p3b_14⟩
        clear hK K hHeld
        have hHeld := hHeld'
        clear hHeld'
        (try simp only [Act.put, List.setIfInBounds_toArray, List.set_cons_zero, List.set_cons_succ])
        refine wpAnyH_ready (rs := [10]) (by kernel_rfl) (by simp) ?_
        refine AllReadyH.cons (o := ?_) ?_ (fun K hK => ?_) AllReadyH.nil
        rotate_left
        · (simp only [List.getElem?_toArray, List.getElem?_cons_zero, List.getElem?_cons_succ]; rfl)
        go_simp
        go_at_call 11
        refine (HS.out _ _ _ _ _ _ _ _ _ _ _ _ _ _ _ _ _ _ _ _ _ t0_14 t1_14 t2_14 t3_14 ho14).mono ?_
        rintro e w15 ⟨⟨r15, m15, d15, cs15, rfl, ho15⟩, hb15⟩
        have p0a_15 := cell_later hb15 p0a_14
        have p0b_15 := cell_later hb15 p0b_14
        have p1a_15 := cell_later hb15 p1a_14
        have p1b_15 := cell_later hb15 p1b_14
        have p2a_15 := cell_later hb15 p2a_14
        have p2b_15 := cell_later hb15 p2b_14
        have p3a_15 := cell_later hb15 p3a_14
        have p3b_15 := cell_later hb15 p3b_14
        have hq15 := (hb15.block (w9.heap.size) (Array.getElem?_eq_some_iff.1 hq14).1).trans hq14
        have B_15 := B_14.trans (hb15.mono B_14.size)
        have Y_15 : Below w5.heap.size w5 w15 := Y_14.trans (hb15.mono Y_14.size)
        have zz15 : w14.heap.size ≤ w15.heap.size := by have q := hb15.size; first | exact q | simpa using q
        (try go_wp2_with fail)
        refine hK.out _ _ ?_ (fun hHeld' => ?_)
        · (try dsimp only)
          exact ⟨p0a_15, p0b_15, p1a_15, p1b_15, p2a_15, p2b_15, p3a_15, p3b_15⟩
        clear hK K hHeld
        have hHeld := hHeld'
        clear hHeld'
        (try simp only [Act.put, List.setIfInBounds_toArray, List.set_cons_zero, List.set_cons_succ])
        refine wpAnyH_take (i := 11) (oi := ?_) (v := ?_) ?_ (by kernel_rfl) (by kernel_rfl) (by kernel_rfl) ?_ (Or.inl ⟨?_, ?_⟩) (by assumption) ?_
        rotate_left 2
        · (simp only [List.getElem?_toArray, List.getElem?_cons_zero, List.getElem?_cons_succ]; rfl)
        · exact fun _ _ _ h => h
        · rfl
        · (intro wS hSw; (try dsimp only at hSw); go_simp; (try with_reducible rfl))
        (try simp only [Act.put, List.setIfInBounds_toArray, List.set_cons_zero, List.set_cons_succ])
        refine wpAnyH_take (i := 12) (oi := ?_) (v := ?_) ?_ (by kernel_rfl) (by kernel_rfl) (by kernel_rfl) ?_ (Or.inl ⟨?_, ?_⟩) (by assumption) ?_
        rotate_left 2
        · (simp only [List.getElem?_toArray, List.getElem?_cons_zero, List.getElem?_cons_succ]; rfl)
        · exact fun _ _ _ h => h
        · rfl
        · (intro wS hSw; (try dsimp only at hSw); go_simp; (try with_reducible rfl))
        (try simp only [Act.put, List.setIfInBounds_toArray, List.set_cons_zero, List.set_cons_succ])
        refine wpAnyH_take (i := 13) (oi := ?_) (v := ?_) ?_ (by kernel_rfl) (by kernel_rfl) (by kernel_rfl) ?_ (Or.inl ⟨?_, ?_⟩) (by assumption) ?_
        rotate_left 2
        · (simp only [List.getElem?_toArray, List.getElem?_cons_zero, List.getElem?_cons_succ]; rfl)
        · exact fun _ _ _ h => h
        · rfl
        · (intro wS hSw; (try dsimp only at hSw); go_simp; (try with_reducible rfl))
        (try simp only [Act.put, List.setIfInBounds_toArray, List.set_cons_zero, List.set_cons_succ])
        have u0 : w15.cell? ⟨w9.heap.size, 0, none⟩ = some (.int .i64 0) := by rw [cell_of_row _ _ 0 _ _ (0, 0) hq15]; rfl
        have u1 : w15.cell? ⟨w9.heap.size, 1, none⟩ = some (.slice none 0 0) := by rw [cell_of_row _ _ 1 _ _ (0, 0) hq15]; rfl
        have v0 : w15.frozen? ⟨w9.heap.size, 0, none⟩ = false := frozen_of_row _ _ 0 _ _ hq15
        have v1 : w15.frozen? ⟨w9.heap.size, 1, none⟩ = false := frozen_of_row _ _ 1 _ _ hq15
        refine wpAnyH_ready (rs := [15]) (by kernel_rfl) (by simp) ?_
        refine AllReadyH.cons (o := ?_) ?_ (fun K hK => ?_) AllReadyH.nil
        rotate_left
        · (simp only [List.getElem?_toArray, List.getElem?_cons_zero, List.getElem?_cons_succ]; rfl)
        go_simp
        skip
        (try go_wp2_with fail)
        refine hK.out _ _ ?_ (fun hHeld' => ?_)
        · (try dsimp only)
          exact ⟨keep_far (keep_far p0a_15 (by omega)) (by omega), keep_far (keep_far p0b_15 (by omega)) (by omega), keep_far (keep_far p1a_15 (by omega)) (by omega), keep_far (keep_far p1b_15 (by omega)) (by omega), keep_far (keep_far p2a_15 (by omega)) (by omega), keep_far (keep_far p2b_15 (by omega)) (by omega), keep_far (keep_far p3a_15 (by omega)) (by omega), keep_far (keep_far p3b_15 (by omega)) (by omega)⟩
        clear hK K hHeld
        have hHeld := hHeld'
        clear hHeld'
        (try simp only [Act.put, List.setIfInBounds_toArray, List.set_cons_zero, List.set_cons_succ])
        refine wpAnyH_take (i := 16) (oi := ?_) (v := ?_) ?_ (by kernel_rfl) (by kernel_rfl) (by kernel_rfl) ?_ (Or.inl ⟨?_, ?_⟩) (by assumption) ?_
        rotate_left 2
        · (simp only [List.getElem?_toArray, List.getElem?_cons_zero, List.getElem?_cons_succ]; rfl)
        · exact fun _ _ _ h => h
        · rfl
        · (intro wS hSw; (try dsimp only at hSw); go_simp; (try with_reducible rfl))
        (try simp only [Act.put, List.setIfInBounds_toArray, List.set_cons_zero, List.set_cons_succ])
        refine wpAnyH_done (by kernel_rfl) ?_ _
        (try go_wp2_with fail)
        go_meet
        case rel =>
          have owk : OwnT w15 w14.heap.size w15.heap.size r15 m15 d15 ta := ⟨cs15, ho15⟩
          exact ⟨w9.heap.size, r15, m15, d15, w14.heap.size, w15.heap.size, rfl, rfl, set2_0 hq15 _ _, set2_1 hq15 _ _, owk.set2 (.inl (by omega)) _ _, by omega, by simp [World.setCell], by omega, by simp only [World.setCell, Array.size_modify]; omega, .inl (by omega), (Y_15.setCell (by show w5.heap.size ≤ w9.heap.size; omega) _).setCell (by show w5.heap.size ≤ w9.heap.size; omega) _⟩
    refine AllReadyH.cons (o := ?_) ?_ (fun K hK => ?_) AllReadyH.nil
    rotate_left
    · (simp only [List.getElem?_toArray, List.getElem?_cons_zero, List.getElem?_cons_succ]; rfl)
    · go_simp
      (try go_wp2_with fail)
      refine hK.out _ _ ?_ (fun hHeld' => ?_)
      · (try dsimp only)
        exact ⟨cell_later ((Below.refl _ _).alloc (Nat.le_refl _) _) p0a_8, cell_later ((Below.refl _ _).alloc (Nat.le_refl _) _) p0b_8, cell_later ((Below.refl _ _).alloc (Nat.le_refl _) _) p1a_8, cell_later ((Below.refl _ _).alloc (Nat.le_refl _) _) p1b_8, cell_later ((Below.refl _ _).alloc (Nat.le_refl _) _) p2a_8, cell_later ((Below.refl _ _).alloc (Nat.le_refl _) _) p2b_8, cell_later ((Below.refl _ _).alloc (Nat.le_refl _) _) p3a_8, cell_later ((Below.refl _ _).alloc (Nat.le_refl _) _) p3b_8⟩
      clear hK K hHeld
      have hHeld := hHeld'
      clear hHeld'
      (try simp only [Act.put, List.setIfInBounds_toArray, List.set_cons_zero, List.set_cons_succ])
      obtain ⟨w9, hU9⟩ : ∃ u, u = w8.alloc (.cells #[.int .i64 0, .slice none 0 0] 25) := ⟨_, rfl⟩
      have hb9 : Below w8.heap.size w8 w9 := by rw [hU9]; exact (Below.refl _ _).alloc (Nat.le_refl _) _
      have zp9 : w9.heap.size = w8.heap.size + 1 := by rw [hU9]; simp
      have hp9 : w9.heap[w8.heap.size]? = some (.cells #[.int .i64 0, .slice none 0 0] 25 (0, 0)) := by rw [hU9]; exact heap_alloc_new _ _
      rw [← hU9]
      clear hU9
      have p0a_9 := cell_later hb9 p0a_8
      have p0b_9 := cell_later hb9 p0b_8
      have p1a_9 := cell_later hb9 p1a_8
      have p1b_9 := cell_later hb9 p1b_8
      have p2a_9 := cell_later hb9 p2a_8
      have p2b_9 := cell_later hb9 p2b_8
      have p3a_9 := cell_later hb9 p3a_8
      have p3b_9 := cell_later hb9 p3b_8
      have B_9 := B_8.trans (hb9.mono B_8.size)
      have Y_9 : Below w5.heap.size w5 w9 := Y_8.trans (hb9.mono Y_8.size)
      have zz9 : w8.heap.size ≤ w9.heap.size := by have q := hb9.size; first | exact q | simpa using q
      refine wpAnyH_ready (rs := [1]) (by kernel_rfl) (by simp) ?_
      refine AllReadyH.cons (o := ?_) ?_ (fun K hK => ?_) AllReadyH.nil
      rotate_left
      · (simp only [List.getElem?_toArray, List.getElem?_cons_zero, List.getElem?_cons_succ]; rfl)
      go_simp
      go_at_call 34
      refine (toTableG _ _ _ z0 p0x _ hs0 (ha0.below B_9)).mono ?_
      rintro e w10 ⟨g10, rfl, ho10, hb10⟩
      have p0a_10 := cell_later hb10 p0a_9
      have p0b_10 := cell_later hb10 p0b_9
      have p1a_10 := cell_later hb10 p1a_9
      have p1b_10 := cell_later hb10 p1b_9
      have p2a_10 := cell_later hb10 p2a_9
      have p2b_10 := cell_later hb10 p2b_9
      have p3a_10 := cell_later hb10 p3a_9
      have p3b_10 := cell_later hb10 p3b_9
      have hq10 := (hb10.block (w8.heap.size) (Array.getElem?_eq_some_iff.1 hp9).1).trans hp9
      have B_10 := B_9.trans (hb10.mono B_9.size)
      have Y_10 : Below w5.heap.size w5 w10 := Y_9.trans (hb10.mono Y_9.size)
      have zz10 : w9.heap.size ≤ w10.heap.size := by have q := hb10.size; first | exact q | simpa using q
      (try go_wp2_with fail)
      refine hK.out _ _ ?_ (fun hHeld' => ?_)
      · (try dsimp only)
        exact ⟨p0a_10, p0b_10, p1a_10, p1b_10, p2a_10, p2b_10, p3a_10, p3b_10⟩
      clear hK K hHeld
      have hHeld := hHeld'
      clear hHeld'
      (try simp only [Act.put, List.setIfInBounds_toArray, List.set_cons_zero, List.set_cons_succ])
      refine wpAnyH_ready (rs := [3]) (by kernel_rfl) (by simp) ?_
      refine AllReadyH.cons (o := ?_) ?_ (fun K hK => ?_) AllReadyH.nil
      rotate_left
      · (simp only [List.getElem?_toArray, List.getElem?_cons_zero, List.getElem?_cons_succ]; rfl)
      go_simp
      go_at_call 34
      refine (toTableG _ _ _ z1 p1x _ hs1 (ha1.below B_10)).mono ?_
      rintro e w11 ⟨g11, rfl, ho11, hb11⟩
      have p0a_11 := cell_later hb11 p0a_10
      have p0b_11 := cell_later hb11 p0b_10
      have p1a_11 := cell_later hb11 p1a_10
      have p1b_11 := cell_later hb11 p1b_10
      have p2a_11 := cell_later hb11 p2a_10
      have p2b_11 := cell_later hb11 p2b_10
      have p3a_11 := cell_later hb11 p3a_10
      have p3b_11 := cell_later hb11 p3b_10
      have t0_11 := ho10.below hb11
      have hq11 := (hb11.block (w8.heap.size) (Array.getElem?_eq_some_iff.1 hq10).1).trans hq10
      have B_11 := B_10.trans (hb11.mono B_10.size)
      have Y_11 : Below w5.heap.size w5 w11 := Y_10.trans (hb11.mono Y_10.size)
      have zz11 : w10.heap.size ≤ w11.heap.size := by have q := hb11.size; first | exact q | simpa using q
      (try go_wp2_with fail)
      refine hK.out _ _ ?_ (fun hHeld' => ?_)
      · (try dsimp only)
        exact ⟨p0a_11, p0b_11, p1a_11, p1b_11, p2a_11, p2b_11, p3a_11, p3b_11⟩
      clear hK K hHeld
      have hHeld := hHeld'
      clear hHeld'
      (try simp only [Act.put, List.setIfInBounds_toArray, List.set_cons_zero, List.set_cons_succ])
      refine wpAnyH_ready (rs := [5]) (by kernel_rfl) (by simp) ?_
      refine AllReadyH.cons (o := ?_) ?_ (fun K hK => ?_) AllReadyH.nil
      rotate_left
      · (simp only [List.getElem?_toArray, List.getElem?_cons_zero, List.getElem?_cons_succ]; rfl)
      go_simp
      go_at_call 34
      refine (toTableG _ _ _ z2 p2x _ hs2 (ha2.below B_11)).mono ?_
      rintro e w12 ⟨g12, rfl, ho12, hb12⟩
      have p0a_12 := cell_later hb12 p0a_11
      have p0b_12 := cell_later hb12 p0b_11
      have p1a_12 := cell_later hb12 p1a_11
      have p1b_12 := cell_later hb12 p1b_11
      have p2a_12 := cell_later hb12 p2a_11
      have p2b_12 := cell_later hb12 p2b_11
      have p3a_12 := cell_later hb12 p3a_11
      have p3b_12 := cell_later hb12 p3b_11
      have t0_12 := t0_11.below hb12
      have t1_12 := ho11.below hb12
      have hq12 := (hb12.block (w8.heap.size) (Array.getElem?_eq_some_iff.1 hq11).1).trans hq11
      have B_12 := B_11.trans (hb12.mono B_11.size)
      have Y_12 : Below w5.heap.size w5 w12 := Y_11.trans (hb12.mono Y_11.size)
      have zz12 : w11.heap.size ≤ w12.heap.size := by have q := hb12.size; first | exact q | simpa using q
      (try go_wp2_with fail)
      refine hK.out _ _ ?_ (fun hHeld' => ?_)
      · (try dsimp only)
        exact ⟨p0a_12, p0b_12, p1a_12, p1b_12, p2a_12, p2b_12, p3a_12, p3b_12⟩
      clear hK K hHeld
      have hHeld := hHeld'
      clear hHeld'
      (try simp only [Act.put, List.setIfInBounds_toArray, List.set_cons_zero, List.set_cons_succ])
      refine wpAnyH_ready (rs := [7]) (by kernel_rfl) (by simp) ?_
      refine AllReadyH.cons (o := ?_) ?_ (fun K hK => ?_) AllReadyH.nil
      rotate_left
      · (simp only [List.getElem?_toArray, List.getElem?_cons_zero, List.getElem?_cons_succ]; rfl)
      go_simp
      go_at_call 34
      refine (toTableG _ _ _ z3 p3x _ hs3 (ha3.below B_12)).mono ?_
      rintro e w13 ⟨g13, rfl, ho13, hb13⟩
      have p0a_13 := cell_later hb13 p0a_12
      have p0b_13 := cell_later hb13 p0b_12
      have p1a_13 := cell_later hb13 p1a_12
      have p1b_13 := cell_later hb13 p1b_12
      have p2a_13 := cell_later hb13 p2a_12
      have p2b_13 := cell_later hb13 p2b_12
      have p3a_13 := cell_later hb13 p3a_12
      have p3b_13 := cell_later hb13 p3b_12
      have t0_13 := t0_12.below hb13
      have t1_13 := t1_12.below hb13
      have t2_13 := ho12.below hb13
      have hq13 := (hb13.block (w8.heap.size) (Array.getElem?_eq_some_iff.1 hq12).1).trans hq12
      have B_13 := B_12.trans (hb13.mono B_12.size)
      have Y_13 : Below w5.heap.size w5 w13 := Y_12.trans (hb13.mono Y_12.size)
      have zz13 : w12.heap.size ≤ w13.heap.size := by have q := hb13.size; first | exact q | simpa using q
      (try go_wp2_with fail)
      refine hK.out _ _ ?_ (fun hHeld' => ?_)
      · (try dsimp only)
        exact ⟨p0a_13, p0b_13, p1a_13, p1b_13, p2a_13, p2b_13, p3a_13, p3b_13⟩
      clear hK K hHeld
      have hHeld := hHeld'
      clear hHeld'
      (try simp only [Act.put, List.setIfInBounds_toArray, List.set_cons_zero, List.set_cons_succ])
      refine wpAnyH_ready (rs := [9]) (by kernel_rfl) (by simp) ?_
      refine AllReadyH.cons (o := ?_) ?_ (fun K hK => ?_) AllReadyH.nil
      rotate_left
      · (simp only [List.getElem?_toArray, List.getElem?_cons_zero, List.getElem?_cons_succ]; rfl)
      go_simp
      go_at_call 35
      refine (toIntSSG _ _ _ z4 _ hs4 (ha4.below B_13)).mono ?_
      rintro e w14 ⟨g14, rfl, ho14, hb14⟩
      have p0a_14 := cell_later hb14 p0a_13
      have p0b_14 := cell_later hb14 p0b_13
      have p1a_14 := cell_later hb14 p1a_13
      have p1b_14 := cell_later hb14 p1b_13
      have p2a_14 := cell_later hb14 p2a_13
      have p2b_14 := cell_later hb14 p2b_13
      have p3a_14 := cell_later hb14 p3a_13
      have p3b_14 := cell_later hb14 p3b_13
      have t0_14 := t0_13.below hb14
      have t1_14 := t1_13.below hb14
      have t2_14 := t2_13.below hb14
      have t3_14 := ho13.below hb14
      have hq14 := (hb14.block (w8.heap.size) (Array.getElem?_eq_some_iff.1 hq13).1).trans hq13
      have B_14 := B_13.trans (hb14.mono B_13.size)
      have Y_14 : Below w5.heap.size w5 w14 := Y_13.trans (hb14.mono Y_13.size)
      have zz14 : w13.heap.size ≤ w14.heap.size := by have q := hb14.size; first | exact q | simpa using q
      (try go_wp2_with fail)
      refine hK.out _ _ ?_ (fun hHeld' => ?_)
      · (try dsimp only)
        exact ⟨p0a_14, p0b_14, p1a_14, p1b_14, p2a_14, p2b_14, p3a_14, p3b_14⟩
      clear hK K hHeld
      have hHeld := hHeld'
      clear hHeld'
      (try simp only [Act.put, List.setIfInBounds_toArray, List.set_cons_zero, List.set_cons_succ])
      refine wpAnyH_ready (rs := [10]) (by kernel_rfl) (by simp) ?_
      refine AllReadyH.cons (o := ?_) ?_ (fun K hK => ?_) AllReadyH.nil
      rotate_left
      · (simp only [List.getElem?_toArray, List.getElem?_cons_zero, List.getElem?_cons_succ]; rfl)
      go_simp
      go_at_call 11
      refine (HS.out _ _ _ _ _ _ _ _ _ _ _ _ _ _ _ _ _ _ _ _ _ t0_14 t1_14 t2_14 t3_14 ho14).mono ?_
      rintro e w15 ⟨⟨r15, m15, d15, cs15, rfl, ho15⟩, hb15⟩
      have p0a_15 := cell_later hb15 p0a_14
      have p0b_15 := cell_later hb15 p0b_14
      have p1a_15 := cell_later hb15 p1a_14
      have p1b_15 := cell_later hb15 p1b_14
      have p2a_15 := cell_later hb15 p2a_14
      have p2b_15 := cell_later hb15 p2b_14
      have p3a_15 := cell_later hb15 p3a_14
      have p3b_15 := cell_later hb15 p3b_14
      have hq15 := (hb15.block (w8.heap.size) (Array.getElem?_eq_some_iff.1 hq14).1).trans hq14
      have B_15 := B_14.trans (hb15.mono B_14.size)
      have Y_15 : Below w5.heap.size w5 w15 := Y_14.trans (hb15.mono Y_14.size)
      have zz15 : w14.heap.size ≤ w15.heap.size := by have q := hb15.size; first | exact q | simpa using q
      (try go_wp2_with fail)
      refine hK.out _ _ ?_ (fun hHeld' => ?_)
      · (try dsimp only)
        exact ⟨p0a_15, p0b_15, p1a_15, p1b_15, p2a_15, p2b_15, p3a_15, p3b_15⟩
      clear hK K hHeld
      have hHeld := hHeld'
      clear hHeld'
      (try simp only [Act.put, List.setIfInBounds_toArray, List.set_cons_zero, List.set_cons_succ])
      refine wpAnyH_take (i := 11) (oi := ?_) (v := ?_) ?_ (by kernel_rfl) (by kernel_rfl) (by kernel_rfl) ?_ (Or.inl ⟨?_, ?_⟩) (by assumption) ?_
      rotate_left 2
      · (simp only [List.getElem?_toArray, List.getElem?_cons_zero, List.getElem?_cons_succ]; rfl)
      · exact fun _ _ _ h => h
      · rfl
      · (intro wS hSw; (try dsimp only at hSw); go_simp; (try with_reducible rfl))
      (try simp only [Act.put, List.setIfInBounds_toArray, List.set_cons_zero, List.set_cons_succ])
      refine wpAnyH_take (i := 12) (oi := ?_) (v := ?_) ?_ (by kernel_rfl) (by kernel_rfl) (by kernel_rfl) ?_ (Or.inl ⟨?_, ?_⟩) (by assumption) ?_
      rotate_left 2
      · (simp only [List.getElem?_toArray, List.getElem?_cons_zero, List.getElem?_cons_succ]; rfl)
      · exact fun _ _ _ h => h
      · rfl
      · (intro wS hSw; (try dsimp only at hSw); go_simp; (try with_reducible rfl))
      (try simp only [Act.put, List.setIfInBounds_toArray, List.set_cons_zero, List.set_cons_succ])
      refine wpAnyH_take (i := 13) (oi := ?_) (v := ?_) ?_ (by kernel_rfl) (by kernel_rfl) (by kernel_rfl) ?_ (Or.inl ⟨?_, ?_⟩) (by assumption) ?_
      rotate_left 2
      · (simp only [List.getElem?_toArray, List.getElem?_cons_zero, List.getElem?_cons_succ]; rfl)
      · exact fun _ _ _ h => h
      · rfl
      · (intro wS hSw; (try dsimp only at hSw); go_simp; (try with_reducible rfl))
      (try simp only [Act.put, List.setIfInBounds_toArray, List.set_cons_zero, List.set_cons_succ])
      have u0 : w15.cell? ⟨w8.heap.size, 0, none⟩ = some (.int .i64 0) := by rw [cell_of_row _ _ 0 _ _ (0, 0) hq15]; rfl
      have u1 : w15.cell? ⟨w8.heap.size, 1, none⟩ = some (.slice none 0 0) := by rw [cell_of_row _ _ 1 _ _ (0, 0) hq15]; rfl
      have v0 : w15.frozen? ⟨w8.heap.size, 0, none⟩ = false := frozen_of_row _ _ 0 _ _ hq15
      have v1 : w15.frozen? ⟨w8.heap.size, 1, none⟩ = false := frozen_of_row _ _ 1 _ _ hq15
      refine wpAnyH_ready (rs := [15]) (by kernel_rfl) (by simp) ?_
      refine AllReadyH.cons (o := ?_) ?_ (fun K hK => ?_) AllReadyH.nil
      rotate_left
      · (simp only [List.getElem?_toArray, List.getElem?_cons_zero, List.getElem?_cons_succ]; rfl)
      go_simp
      skip
      (try go_wp2_with fail)
      refine hK.out _ _ ?_ (fun hHeld' => ?_)
      · (try dsimp only)
        exact ⟨keep_far (keep_far p0a_15 (by omega)) (by omega), keep_far (keep_far p0b_15 (by omega)) (by omega), keep_far (keep_far p1a_15 (by omega)) (by omega), keep_far (keep_far p1b_15 (by omega)) (by omega), keep_far (keep_far p2a_15 (by omega)) (by omega), keep_far (keep_far p2b_15 (by omega)) (by omega), keep_far (keep_far p3a_15 (by omega)) (by omega), keep_far (keep_far p3b_15 (by omega)) (by omega)⟩
      clear hK K hHeld
      have hHeld := hHeld'
      clear hHeld'
      (try simp only [Act.put, List.setIfInBounds_toArray, List.set_cons_zero, List.set_cons_succ])
      refine wpAnyH_take (i := 16) (oi := ?_) (v := ?_) ?_ (by kernel_rfl) (by kernel_rfl) (by kernel_rfl) ?_ (Or.inl ⟨?_, ?_⟩) (by assumption) ?_
      rotate_left 2
      · (simp only [List.getElem?_toArray, List.getElem?_cons_zero, List.getElem?_cons_succ]; rfl)
      · exact fun _ _ _ h => h
      · rfl
      · (intro wS hSw; (try dsimp only at hSw); go_simp; (try with_reducible rfl))
      (try simp only [Act.put, List.setIfInBounds_toArray, List.set_cons_zero, List.set_cons_succ])
      refine wpAnyH_done (by kernel_rfl) ?_ _
      (try go_wp2_with fail)
      go_meet
      case rel =>
        have owk : OwnT w15 w14.heap.size w15.heap.size r15 m15 d15 ta := ⟨cs15, ho15⟩
        exact ⟨w8.heap.size, r15, m15, d15, w14.heap.size, w15.heap.size, rfl, rfl, set2_0 hq15 _ _, set2_1 hq15 _ _, owk.set2 (.inl (by omega)) _ _, by omega, by simp [World.setCell], by omega, by simp only [World.setCell, Array.size_modify]; omega, .inl (by omega), (Y_15.setCell (by show w5.heap.size ≤ w8.heap.size; omega) _).setCell (by show w5.heap.size ≤ w8.heap.size; omega) _⟩
  case rest =>
    obtain ⟨Pb66, r66, m66, d66, lo66, hi66, rfl, rfl, Wa_66, Wb_66, ow66, pl66, ph66, pm66, pn66, pd66, hb66⟩ := hcut
    obtain ⟨w66, rfl⟩ : ∃ x, x = wc := ⟨_, rfl⟩
    obtain rfl : na = m66 := HNA.out.symm.trans ow66.len
    have p0a_66 := cell_later hb66 p0a_5
    have p0b_66 := cell_later hb66 p0b_5
    have p1a_66 := cell_later hb66 p1a_5
    have p1b_66 := cell_later hb66 p1b_5
    have p2a_66 := cell_later hb66 p2a_5
    have p2b_66 := cell_later hb66 p2b_5
    have p3a_66 := cell_later hb66 p3a_5
    have p3b_66 := cell_later hb66 p3b_5
    have B_66 := B_5.trans (hb66.mono B_5.size)
    have zz66 : w5.heap.size ≤ w66.heap.size := by have q := hb66.size; first | exact q | simpa using q
    clear p0a_5 p0b_5 p1a_5 p1b_5 p2a_5 p2b_5 p3a_5 p3b_5 B_5
    clear hb66
    go_wp2_with fail
    refine (toTableG _ _ _ z0 p0x _ hs0 (ha0.below B_66)).mono ?_
    rintro e w67 ⟨g67, rfl, ho67, hb67⟩
    have p0a_67 := cell_later hb67 p0a_66
    have p0b_67 := cell_later hb67 p0b_66
    have p1a_67 := cell_later hb67 p1a_66
    have p1b_67 := cell_later hb67 p1b_66
    have p2a_67 := cell_later hb67 p2a_66
    have p2b_67 := cell_later hb67 p2b_66
    have p3a_67 := cell_later hb67 p3a_66
    have p3b_67 := cell_later hb67 p3b_66
    have Wa_67 := cell_later hb67 Wa_66
    have Wb_67 := cell_later hb67 Wb_66
    have o_67 := ow66.below hb67
    have B_67 := B_66.trans (hb67.mono B_66.size)
    have zz67 : w66.heap.size ≤ w67.heap.size := by have q := hb67.size; first | exact q | simpa using q
    clear p0a_66 p0b_66 p1a_66 p1b_66 p2a_66 p2b_66 p3a_66 p3b_66 Wa_66 Wb_66 ow66 B_66
    clear hb67
    have ox67 : OwnT w67 (w66.heap.size) w67.heap.size (some ⟨g67, 0, none⟩) n0 n0 z0 := by first | exact ho67 | simpa using ho67
    clear ho67
    have hb68 : Below w67.heap.size w67 (w67.alloc (.cells #[.int .i64 p0x, .slice (some ⟨g67, 0, none⟩) n0 n0] 25)) := (Below.refl _ _).alloc (Nat.le_refl _) _
    have p0a_68 := cell_later hb68 p0a_67
    have p0b_68 := cell_later hb68 p0b_67
    have p1a_68 := cell_later hb68 p1a_67
    have p1b_68 := cell_later hb68 p1b_67
    have p2a_68 := cell_later hb68 p2a_67
    have p2b_68 := cell_later hb68 p2b_67
    have p3a_68 := cell_later hb68 p3a_67
    have p3b_68 := cell_later hb68 p3b_67
    have Wa_68 := cell_later hb68 Wa_67
    have Wb_68 := cell_later hb68 Wb_67
    have o_68 := o_67.below hb68
    have x0_68 := ox67.below hb68
    have B_68 := B_67.trans (hb68.mono B_67.size)
    have zz68 : w67.heap.size ≤ w67.heap.size + 1 := by simp
    clear p0a_67 p0b_67 p1a_67 p1b_67 p2a_67 p2b_67 p3a_67 p3b_67 Wa_67 Wb_67 o_67 ox67 B_67
    have X0a_68 : (w67.alloc (.cells #[.int .i64 p0x, .slice (some ⟨g67, 0, none⟩) n0 n0] 25)).cell? ⟨w67.heap.size, 0, none⟩ = some (.int .i64 p0x) := by simp
    have X0b_68 : (w67.alloc (.cells #[.int .i64 p0x, .slice (some ⟨g67, 0, none⟩) n0 n0] 25)).cell? ⟨w67.heap.size, 1, none⟩ = some (.slice (some ⟨g67, 0, none⟩) n0 n0) := by simp
    clear hb68
    go_wp2_with fail
    refine (toTableG _ _ _ z1 p1x _ hs1 (ha1.below B_68)).mono ?_
    rintro e w69 ⟨g69, rfl, ho69, hb69⟩
    have p0a_69 := cell_later hb69 p0a_68
    have p0b_69 := cell_later hb69 p0b_68
    have p1a_69 := cell_later hb69 p1a_68
    have p1b_69 := cell_later hb69 p1b_68
    have p2a_69 := cell_later hb69 p2a_68
    have p2b_69 := cell_later hb69 p2b_68
    have p3a_69 := cell_later hb69 p3a_68
    have p3b_69 := cell_later hb69 p3b_68
    have Wa_69 := cell_later hb69 Wa_68
    have Wb_69 := cell_later hb69 Wb_68
    have X0a_69 := cell_later hb69 X0a_68
    have X0b_69 := cell_later hb69 X0b_68
    have o_69 := o_68.below hb69
    have x0_69 := x0_68.below hb69
    have B_69 := B_68.trans (hb69.mono B_68.size)
    have zz69 : w67.heap.size + 1 ≤ w69.heap.size := by have q := hb69.size; first | exact q | simpa using q
    clear p0a_68 p0b_68 p1a_68 p1b_68 p2a_68 p2b_68 p3a_68 p3b_68 Wa_68 Wb_68 X0a_68 X0b_68 o_68 x0_68 B_68
    clear hb69
    have ox69 : OwnT w69 (w67.heap.size + 1) w69.heap.size (some ⟨g69, 0, none⟩) n1 n1 z1 := by first | exact ho69 | simpa using ho69
    clear ho69
    have hb70 : Below w69.heap.size w69 (w69.alloc (.cells #[.int .i64 p1x, .slice (some ⟨g69, 0, none⟩) n1 n1] 25)) := (Below.refl _ _).alloc (Nat.le_refl _) _
    have p0a_70 := cell_later hb70 p0a_69
    have p0b_70 := cell_later hb70 p0b_69
    have p1a_70 := cell_later hb70 p1a_69
    have p1b_70 := cell_later hb70 p1b_69
    have p2a_70 := cell_later hb70 p2a_69
    have p2b_70 := cell_later hb70 p2b_69
    have p3a_70 := cell_later hb70 p3a_69
    have p3b_70 := cell_later hb70 p3b_69
    have Wa_70 := cell_later hb70 Wa_69
    have Wb_70 := cell_later hb70 Wb_69
    have X0a_70 := cell_later hb70 X0a_69
    have X0b_70 := cell_later hb70 X0b_69
    have o_70 := o_69.below hb70
    have x0_70 := x0_69.below hb70
    have x1_70 := ox69.below hb70
    have B_70 := B_69.trans (hb70.mono B_69.size)
    have zz70 : w69.heap.size ≤ w69.heap.size + 1 := by simp
    clear p0a_69 p0b_69 p1a_69 p1b_69 p2a_69 p2b_69 p3a_69 p3b_69 Wa_69 Wb_69 X0a_69 X0b_69 o_69 x0_69 ox69 B_69
    have X1a_70 : (w69.alloc (.cells #[.int .i64 p1x, .slice (some ⟨g69, 0, none⟩) n1 n1] 25)).cell? ⟨w69.heap.size, 0, none⟩ = some (.int .i64 p1x) := by simp
    have X1b_70 : (w69.alloc (.cells #[.int .i64 p1x, .slice (some ⟨g69, 0, none⟩) n1 n1] 25)).cell? ⟨w69.heap.size, 1, none⟩ = some (.slice (some ⟨g69, 0, none⟩) n1 n1) := by simp
    clear hb70
    go_wp2_with fail
    refine (toTableG _ _ _ z2 p2x _ hs2 (ha2.below B_70)).mono ?_
    rintro e w71 ⟨g71, rfl, ho71, hb71⟩
    have p0a_71 := cell_later hb71 p0a_70
    have p0b_71 := cell_later hb71 p0b_70
    have p1a_71 := cell_later hb71 p1a_70
    have p1b_71 := cell_later hb71 p1b_70
    have p2a_71 := cell_later hb71 p2a_70
    have p2b_71 := cell_later hb71 p2b_70
    have p3a_71 := cell_later hb71 p3a_70
    have p3b_71 := cell_later hb71 p3b_70
    have Wa_71 := cell_later hb71 Wa_70
    have Wb_71 := cell_later hb71 Wb_70
    have X0a_71 := cell_later hb71 X0a_70
    have X0b_71 := cell_later hb71 X0b_70
    have X1a_71 := cell_later hb71 X1a_70
    have X1b_71 := cell_later hb71 X1b_70
    have o_71 := o_70.below hb71
    have x0_71 := x0_70.below hb71
    have x1_71 := x1_70.below hb71
    have B_71 := B_70.trans (hb71.mono B_70.size)
    have zz71 : w69.heap.size + 1 ≤ w71.heap.size := by have q := hb71.size; first | exact q | simpa using q
    clear p0a_70 p0b_70 p1a_70 p1b_70 p2a_70 p2b_70 p3a_70 p3b_70 Wa_70 Wb_70 X0a_70 X0b_70 X1a_70 X1b_70 o_70 x0_70 x1_70 B_70
    clear hb71
    have ox71 : OwnT w71 (w69.heap.size + 1) w71.heap.size (some ⟨g71, 0, none⟩) n2 n2 z2 := by first | exact ho71 | simpa using ho71
    clear ho71
    have hb72 : Below w71.heap.size w71 (w71.alloc (.cells #[.int .i64 p2x, .slice (some ⟨g71, 0, none⟩) n2 n2] 25)) := (Below.refl _ _).alloc (Nat.le_refl _) _
    have p0a_72 := cell_later hb72 p0a_71
    have p0b_72 := cell_later hb72 p0b_71
    have p1a_72 := cell_later hb72 p1a_71
    have p1b_72 := cell_later hb72 p1b_71
    have p2a_72 := cell_later hb72 p2a_71
    have p2b_72 := cell_later hb72 p2b_71
    have p3a_72 := cell_later hb72 p3a_71
    have p3b_72 := cell_later hb72 p3b_71
    have Wa_72 := cell_later hb72 Wa_71
    have Wb_72 := cell_later hb72 Wb_71
    have X0a_72 := cell_later hb72 X0a_71
    have X0b_72 := cell_later hb72 X0b_71
    have X1a_72 := cell_later hb72 X1a_71
    have X1b_72 := cell_later hb72 X1b_71
    have o_72 := o_71.below hb72
    have x0_72 := x0_71.below hb72
    have x1_72 := x1_71.below hb72
    have x2_72 := ox71.below hb72
    have B_72 := B_71.trans (hb72.mono B_71.size)
    have zz72 : w71.heap.size ≤ w71.heap.size + 1 := by simp
    clear p0a_71 p0b_71 p1a_71 p1b_71 p2a_71 p2b_71 p3a_71 p3b_71 Wa_71 Wb_71 X0a_71 X0b_71 X1a_71 X1b_71 o_71 x0_71 x1_71 ox71 B_71
    have X2a_72 : (w71.alloc (.cells #[.int .i64 p2x, .slice (some ⟨g71, 0, none⟩) n2 n2] 25)).cell? ⟨w71.heap.size, 0, none⟩ = some (.int .i64 p2x) := by simp
    have X2b_72 : (w71.alloc (.cells #[.int .i64 p2x, .slice (some ⟨g71, 0, none⟩) n2 n2] 25)).cell? ⟨w71.heap.size, 1, none⟩ = some (.slice (some ⟨g71, 0, none⟩) n2 n2) := by simp
    clear hb72
    go_wp2_with fail
    refine (toTableG _ _ _ z3 p3x _ hs3 (ha3.below B_72)).mono ?_
    rintro e w73 ⟨g73, rfl, ho73, hb73⟩
    have p0a_73 := cell_later hb73 p0a_72
    have p0b_73 := cell_later hb73 p0b_72
    have p1a_73 := cell_later hb73 p1a_72
    have p1b_73 := cell_later hb73 p1b_72
    have p2a_73 := cell_later hb73 p2a_72
    have p2b_73 := cell_later hb73 p2b_72
    have p3a_73 := cell_later hb73 p3a_72
    have p3b_73 := cell_later hb73 p3b_72
    have Wa_73 := cell_later hb73 Wa_72
    have Wb_73 := cell_later hb73 Wb_72
    have X0a_73 := cell_later hb73 X0a_72
    have X0b_73 := cell_later hb73 X0b_72
    have X1a_73 := cell_later hb73 X1a_72
    have X1b_73 := cell_later hb73 X1b_72
    have X2a_73 := cell_later hb73 X2a_72
    have X2b_73 := cell_later hb73 X2b_72
    have o_73 := o_72.below hb73
    have x0_73 := x0_72.below hb73
    have x1_73 := x1_72.below hb73
    have x2_73 := x2_72.below hb73
    have B_73 := B_72.trans (hb73.mono B_72.size)
    have zz73 : w71.heap.size + 1 ≤ w73.heap.size := by have q := hb73.size; first | exact q | simpa using q
    clear p0a_72 p0b_72 p1a_72 p1b_72 p2a_72 p2b_72 p3a_72 p3b_72 Wa_72 Wb_72 X0a_72 X0b_72 X1a_72 X1b_72 X2a_72 X2b_72 o_72 x0_72 x1_72 x2_72 B_72
    clear hb73
    have ox73 : OwnT w73 (w71.heap.size + 1) w73.heap.size (some ⟨g73, 0, none⟩) n3 n3 z3 := by first | exact ho73 | simpa using ho73
    clear ho73
    have hb74 : Below w73.heap.size w73 (w73.alloc (.cells #[.int .i64 p3x, .slice (some ⟨g73, 0, none⟩) n3 n3] 25)) := (Below.refl _ _).alloc (Nat.le_refl _) _
    have p0a_74 := cell_later hb74 p0a_73
    have p0b_74 := cell_later hb74 p0b_73
    have p1a_74 := cell_later hb74 p1a_73
    have p1b_74 := cell_later hb74 p1b_73
    have p2a_74 := cell_later hb74 p2a_73
    have p2b_74 := cell_later hb74 p2b_73
    have p3a_74 := cell_later hb74 p3a_73
    have p3b_74 := cell_later hb74 p3b_73
    have Wa_74 := cell_later hb74 Wa_73
    have Wb_74 := cell_later hb74 Wb_73
    have X0a_74 := cell_later hb74 X0a_73
    have X0b_74 := cell_later hb74 X0b_73
    have X1a_74 := cell_later hb74 X1a_73
    have X1b_74 := cell_later hb74 X1b_73
    have X2a_74 := cell_later hb74 X2a_73
    have X2b_74 := cell_later hb74 X2b_73
    have o_74 := o_73.below hb74
    have x0_74 := x0_73.below hb74
    have x1_74 := x1_73.below hb74
    have x2_74 := x2_73.below hb74
    have x3_74 := ox73.below hb74
    have B_74 := B_73.trans (hb74.mono B_73.size)
    have zz74 : w73.heap.size ≤ w73.heap.size + 1 := by simp
    clear p0a_73 p0b_73 p1a_73 p1b_73 p2a_73 p2b_73 p3a_73 p3b_73 Wa_73 Wb_73 X0a_73 X0b_73 X1a_73 X1b_73 X2a_73 X2b_73 o_73 x0_73 x1_73 x2_73 ox73 B_73
    have X3a_74 : (w73.alloc (.cells #[.int .i64 p3x, .slice (some ⟨g73, 0, none⟩) n3 n3] 25)).cell? ⟨w73.heap.size, 0, none⟩ = some (.int .i64 p3x) := by simp
    have X3b_74 : (w73.alloc (.cells #[.int .i64 p3x, .slice (some ⟨g73, 0, none⟩) n3 n3] 25)).cell? ⟨w73.heap.size, 1, none⟩ = some (.slice (some ⟨g73, 0, none⟩) n3 n3) := by simp
    clear hb74
    go_wp2_with fail
    refine (toIntSSG _ _ _ z4 _ hs4 (ha4.below B_74)).mono ?_
    rintro e w75 ⟨g75, rfl, ho75, hb75⟩
    have p0a_75 := cell_later hb75 p0a_74
    have p0b_75 := cell_later hb75 p0b_74
    have p1a_75 := cell_later hb75 p1a_74
    have p1b_75 := cell_later hb75 p1b_74
    have p2a_75 := cell_later hb75 p2a_74
    have p2b_75 := cell_later hb75 p2b_74
    have p3a_75 := cell_later hb75 p3a_74
    have p3b_75 := cell_later hb75 p3b_74
    have Wa_75 := cell_later hb75 Wa_74
    have Wb_75 := cell_later hb75 Wb_74
    have X0a_75 := cell_later hb75 X0a_74
    have X0b_75 := cell_later hb75 X0b_74
    have X1a_75 := cell_later hb75 X1a_74
    have X1b_75 := cell_later hb75 X1b_74
    have X2a_75 := cell_later hb75 X2a_74
    have X2b_75 := cell_later hb75 X2b_74
    have X3a_75 := cell_later hb75 X3a_74
    have X3b_75 := cell_later hb75 X3b_74
    have o_75 := o_74.below hb75
    have x0_75 := x0_74.below hb75
    have x1_75 := x1_74.below hb75
    have x2_75 := x2_74.below hb75
    have x3_75 := x3_74.below hb75
    have B_75 := B_74.trans (hb75.mono B_74.size)
    have zz75 : w73.heap.size + 1 ≤ w75.heap.size := by have q := hb75.size; first | exact q | simpa using q
    clear p0a_74 p0b_74 p1a_74 p1b_74 p2a_74 p2b_74 p3a_74 p3b_74 Wa_74 Wb_74 X0a_74 X0b_74 X1a_74 X1b_74 X2a_74 X2b_74 X3a_74 X3b_74 o_74 x0_74 x1_74 x2_74 x3_74 B_74
    clear hb75
    have ox75 : OwnP w75 (w73.heap.size + 1) w75.heap.size (some ⟨g75, 0, none⟩) n4 n4 z4 := by first | exact ho75 | simpa using ho75
    clear ho75
    go_wp2_with fail
    refine (HI.out _ _ _ _ _ _ _ _ _ _ _ _ _ _ _ _ _ _ _ _ _ x0_75 x1_75 x2_75 x3_75 ox75).mono ?_
    rintro e w76 ⟨⟨r76, m76, d76, cs76, rfl, ho76⟩, hb76⟩
    have p0a_76 := cell_later hb76 p0a_75
    have p0b_76 := cell_later hb76 p0b_75
    have p1a_76 := cell_later hb76 p1a_75
    have p1b_76 := cell_later hb76 p1b_75
    have p2a_76 := cell_later hb76 p2a_75
    have p2b_76 := cell_later hb76 p2b_75
    have p3a_76 := cell_later hb76 p3a_75
    have p3b_76 := cell_later hb76 p3b_75
    have Wa_76 := cell_later hb76 Wa_75
    have Wb_76 := cell_later hb76 Wb_75
    have X0a_76 := cell_later hb76 X0a_75
    have X0b_76 := cell_later hb76 X0b_75
    have X1a_76 := cell_later hb76 X1a_75
    have X1b_76 := cell_later hb76 X1b_75
    have X2a_76 := cell_later hb76 X2a_75
    have X2b_76 := cell_later hb76 X2b_75
    have X3a_76 := cell_later hb76 X3a_75
    have X3b_76 := cell_later hb76 X3b_75
    have o_76 := o_75.below hb76
    have x0_76 := x0_75.below hb76
    have x1_76 := x1_75.below hb76
    have x2_76 := x2_75.below hb76
    have x3_76 := x3_75.below hb76
    have x4_76 := ox75.below hb76
    have B_76 := B_75.trans (hb76.mono B_75.size)
    have zz76 : w75.heap.size ≤ w76.heap.size := by have q := hb76.size; first | exact q | simpa using q
    clear p0a_75 p0b_75 p1a_75 p1b_75 p2a_75 p2b_75 p3a_75 p3b_75 Wa_75 Wb_75 X0a_75 X0b_75 X1a_75 X1b_75 X2a_75 X2b_75 X3a_75 X3b_75 o_75 x0_75 x1_75 x2_75 x3_75 ox75 B_75
    clear hb76
    have ow76 : OwnT w76 (w75.heap.size) w76.heap.size r76 m76 d76 ta := ⟨cs76, by first | exact ho76 | simpa using ho76⟩
    obtain rfl : na = m76 := HNA.out.symm.trans ow76.len
    clear ho76
    have hb77 : Below w76.heap.size w76 (w76.alloc (.cells #[.int .i64 pa, .slice r76 na d76] 25)) := (Below.refl _ _).alloc (Nat.le_refl _) _
    have p0a_77 := cell_later hb77 p0a_76
    have p0b_77 := cell_later hb77 p0b_76
    have p1a_77 := cell_later hb77 p1a_76
    have p1b_77 := cell_later hb77 p1b_76
    have p2a_77 := cell_later hb77 p2a_76
    have p2b_77 := cell_later hb77 p2b_76
    have p3a_77 := cell_later hb77 p3a_76
    have p3b_77 := cell_later hb77 p3b_76
    have Wa_77 := cell_later hb77 Wa_76
    have Wb_77 := cell_later hb77 Wb_76
    have X0a_77 := cell_later hb77 X0a_76
    have X0b_77 := cell_later hb77 X0b_76
    have X1a_77 := cell_later hb77 X1a_76
    have X1b_77 := cell_later hb77 X1b_76
    have X2a_77 := cell_later hb77 X2a_76
    have X2b_77 := cell_later hb77 X2b_76
    have X3a_77 := cell_later hb77 X3a_76
    have X3b_77 := cell_later hb77 X3b_76
    have o_77 := o_76.below hb77
    have x0_77 := x0_76.below hb77
    have x1_77 := x1_76.below hb77
    have x2_77 := x2_76.below hb77
    have x3_77 := x3_76.below hb77
    have x4_77 := x4_76.below hb77
    have g_77 := ow76.below hb77
    have B_77 := B_76.trans (hb77.mono B_76.size)
    have zz77 : w76.heap.size ≤ w76.heap.size + 1 := by simp
    clear p0a_76 p0b_76 p1a_76 p1b_76 p2a_76 p2b_76 p3a_76 p3b_76 Wa_76 Wb_76 X0a_76 X0b_76 X1a_76 X1b_76 X2a_76 X2b_76 X3a_76 X3b_76 o_76 x0_76 x1_76 x2_76 x3_76 x4_76 ow76 B_76
    have Ga_77 : (w76.alloc (.cells #[.int .i64 pa, .slice r76 na d76] 25)).cell? ⟨w76.heap.size, 0, none⟩ = some (.int .i64 pa) := by simp
    have Gb_77 : (w76.alloc (.cells #[.int .i64 pa, .slice r76 na d76] 25)).cell? ⟨w76.heap.size, 1, none⟩ = some (.slice r76 na d76) := by simp
    clear hb77
    go_wp2_with fail
    refine (eqTableG _ _ _ _ _ ta pa _ hsA (g_77.atW hsA) (o_77.atW hsA)).mono ?_
    rintro e w78 ⟨rfl, hb78⟩
    have p0a_78 := cell_later hb78 p0a_77
    have p0b_78 := cell_later hb78 p0b_77
    have p1a_78 := cell_later hb78 p1a_77
    have p1b_78 := cell_later hb78 p1b_77
    have p2a_78 := cell_later hb78 p2a_77
    have p2b_78 := cell_later hb78 p2b_77
    have p3a_78 := cell_later hb78 p3a_77
    have p3b_78 := cell_later hb78 p3b_77
    have Wa_78 := cell_later hb78 Wa_77
    have Wb_78 := cell_later hb78 Wb_77
    have X0a_78 := cell_later hb78 X0a_77
    have X0b_78 := cell_later hb78 X0b_77
    have X1a_78 := cell_later hb78 X1a_77
    have X1b_78 := cell_later hb78 X1b_77
    have X2a_78 := cell_later hb78 X2a_77
    have X2b_78 := cell_later hb78 X2b_77
    have X3a_78 := cell_later hb78 X3a_77
    have X3b_78 := cell_later hb78 X3b_77
    have Ga_78 := cell_later hb78 Ga_77
    have Gb_78 := cell_later hb78 Gb_77
    have o_78 := o_77.below hb78
    have x0_78 := x0_77.below hb78
    have x1_78 := x1_77.below hb78
    have x2_78 := x2_77.below hb78
    have x3_78 := x3_77.below hb78
    have x4_78 := x4_77.below hb78
    have g_78 := g_77.below hb78
    have B_78 := B_77.trans (hb78.mono B_77.size)
    have zz78 : w76.heap.size + 1 ≤ w78.heap.size := by have q := hb78.size; first | exact q | simpa using q
    clear p0a_77 p0b_77 p1a_77 p1b_77 p2a_77 p2b_77 p3a_77 p3b_77 Wa_77 Wb_77 X0a_77 X0b_77 X1a_77 X1b_77 X2a_77 X2b_77 X3a_77 X3b_77 Ga_77 Gb_77 o_77 x0_77 x1_77 x2_77 x3_77 x4_77 g_77 B_77
    clear hb78
    go_wp2_with fail
    refine wp_region_held_drew (S := fun w' => w'.cell? ⟨w67.heap.size, 0, none⟩ = some (.int .i64 p0x) ∧ w'.cell? ⟨w67.heap.size, 1, none⟩ = some (.slice (some ⟨g67, 0, none⟩) n0 n0) ∧ w'.cell? ⟨w.heap.size, 0, none⟩ = some (.int .i64 p0x) ∧ w'.cell? ⟨w.heap.size, 1, none⟩ = some (.slice a0 n0 c0)) (by kernel_rfl) ?_ (fun hHeld => ?_)
    · (try dsimp only)
      exact ⟨X0a_78, X0b_78, p0a_78, p0b_78⟩
    refine wpAnyH_take (i := 0) (oi := ?_) (v := ?_) ?_ (by kernel_rfl) (by kernel_rfl) (by kernel_rfl) ?_ (Or.inl ⟨?_, ?_⟩) (by assumption) ?_
    rotate_left 2
    · (simp only [List.getElem?_toArray, List.getElem?_cons_zero]; rfl)
    · exact fun _ _ _ h => h
    · rfl
    · (intro wS hSw; (try dsimp only at hSw); go_simp; (try with_reducible rfl))
    (try simp only [Act.put, List.setIfInBounds_toArray, List.set_cons_zero, List.set_cons_succ])
    refine wpAnyH_take (i := 1) (oi := ?_) (v := ?_) ?_ (by kernel_rfl) (by kernel_rfl) (by kernel_rfl) ?_ (Or.inl ⟨?_, ?_⟩) (by assumption) ?_
    rotate_left 2
    · (simp only [List.getElem?_toArray, List.getElem?_cons_zero, List.getElem?_cons_succ]; rfl)
    · exact fun _ _ _ h => h
    · rfl
    · (intro wS hSw; (try dsimp only at hSw); go_simp; (try with_reducible rfl))
    (try simp only [Act.put, List.setIfInBounds_toArray, List.set_cons_zero, List.set_cons_succ])
    refine wpAnyH_ready (rs := [2]) (by kernel_rfl) (by simp) ?_
    refine AllReadyH.cons (o := ?_) ?_ (fun K hK => ?_) AllReadyH.nil
    rotate_left
    · (simp only [List.getElem?_toArray, List.getElem?_cons_zero, List.getElem?_cons_succ]; rfl)
    go_simp
    go_at_call 34
    refine (toTableG _ _ _ z0 p0x _ hs0 (ha0.below B_78.drew)).mono ?_
    rintro e w79 ⟨g79, rfl, ho79, hd79⟩
    have hb79 : Below w78.heap.size w78 w79 := (Below.refl _ _).drew.trans hd79
    have p0a_79 := cell_later hb79 p0a_78
    have p0b_79 := cell_later hb79 p0b_78
    have p1a_79 := cell_later hb79 p1a_78
    have p1b_79 := cell_later hb79 p1b_78
    have p2a_79 := cell_later hb79 p2a_78
    have p2b_79 := cell_later hb79 p2b_78
    have p3a_79 := cell_later hb79 p3a_78
    have p3b_79 := cell_later hb79 p3b_78
    have Wa_79 := cell_later hb79 Wa_78
    have Wb_79 := cell_later hb79 Wb_78
    have X0a_79 := cell_later hb79 X0a_78
    have X0b_79 := cell_later hb79 X0b_78
    have X1a_79 := cell_later hb79 X1a_78
    have X1b_79 := cell_later hb79 X1b_78
    have X2a_79 := cell_later hb79 X2a_78
    have X2b_79 := cell_later hb79 X2b_78
    have X3a_79 := cell_later hb79 X3a_78
    have X3b_79 := cell_later hb79 X3b_78
    have Ga_79 := cell_later hb79 Ga_78
    have Gb_79 := cell_later hb79 Gb_78
    have o_79 := o_78.below hb79
    have x0_79 := x0_78.below hb79
    have x1_79 := x1_78.below hb79
    have x2_79 := x2_78.below hb79
    have x3_79 := x3_78.below hb79
    have x4_79 := x4_78.below hb79
    have g_79 := g_78.below hb79
    have B_79 := B_78.trans (hb79.mono B_78.size)
    have zz79 : w78.heap.size ≤ w79.heap.size := by have q := hb79.size; first | exact q | simpa using q
    clear p0a_78 p0b_78 p1a_78 p1b_78 p2a_78 p2b_78 p3a_78 p3b_78 Wa_78 Wb_78 X0a_78 X0b_78 X1a_78 X1b_78 X2a_78 X2b_78 X3a_78 X3b_78 Ga_78 Gb_78 o_78 x0_78 x1_78 x2_78 x3_78 x4_78 g_78 B_78
    (try go_wp2_with fail)
    refine hK.out _ _ ?_ (fun hHeld' => ?_)
    · (try dsimp only)
      exact ⟨X0a_79, X0b_79, p0a_79, p0b_79⟩
    clear hK K hHeld
    have hHeld := hHeld'
    clear hHeld'
    (try simp only [Act.put, List.setIfInBounds_toArray, List.set_cons_zero, List.set_cons_succ])
    clear hb79 hd79
    refine wpAnyH_ready (rs := [3]) (by kernel_rfl) (by simp) ?_
    refine AllReadyH.cons (o := ?_) ?_ (fun K hK => ?_) AllReadyH.nil
    rotate_left
    · (simp only [List.getElem?_toArray, List.getElem?_cons_zero, List.getElem?_cons_succ]; rfl)
    go_simp
    go_at_call 36
    refine (eqTableG _ _ _ _ _ z0 p0x _ hs0 (x0_79.atW hs0) (ho79.atW hs0)).mono ?_
    rintro e w80 ⟨rfl, hb80⟩
    clear ho79
    have p0a_80 := cell_later hb80 p0a_79
    have p0b_80 := cell_later hb80 p0b_79
    have p1a_80 := cell_later hb80 p1a_79
    have p1b_80 := cell_later hb80 p1b_79
    have p2a_80 := cell_later hb80 p2a_79
    have p2b_80 := cell_later hb80 p2b_79
    have p3a_80 := cell_later hb80 p3a_79
    have p3b_80 := cell_later hb80 p3b_79
    have Wa_80 := cell_later hb80 Wa_79
    have Wb_80 := cell_later hb80 Wb_79
    have X0a_80 := cell_later hb80 X0a_79
    have X0b_80 := cell_later hb80 X0b_79
    have X1a_80 := cell_later hb80 X1a_79
    have X1b_80 := cell_later hb80 X1b_79
    have X2a_80 := cell_later hb80 X2a_79
    have X2b_80 := cell_later hb80 X2b_79
    have X3a_80 := cell_later hb80 X3a_79
    have X3b_80 := cell_later hb80 X3b_79
    have Ga_80 := cell_later hb80 Ga_79
    have Gb_80 := cell_later hb80 Gb_79
    have o_80 := o_79.below hb80
    have x0_80 := x0_79.below hb80
    have x1_80 := x1_79.below hb80
    have x2_80 := x2_79.below hb80
    have x3_80 := x3_79.below hb80
    have x4_80 := x4_79.below hb80
    have g_80 := g_79.below hb80
    have B_80 := B_79.trans (hb80.mono B_79.size)
    have zz80 : w79.heap.size ≤ w80.heap.size := by have q := hb80.size; first | exact q | simpa using q
    clear p0a_79 p0b_79 p1a_79 p1b_79 p2a_79 p2b_79 p3a_79 p3b_79 Wa_79 Wb_79 X0a_79 X0b_79 X1a_79 X1b_79 X2a_79 X2b_79 X3a_79 X3b_79 Ga_79 Gb_79 o_79 x0_79 x1_79 x2_79 x3_79 x4_79 g_79 B_79
    (try go_wp2_with fail)
    refine hK.out _ _ ?_ (fun hHeld' => ?_)
    · (try dsimp only)
      exact ⟨X0a_80, X0b_80, p0a_80, p0b_80⟩
    clear hK K hHeld
    have hHeld := hHeld'
    clear hHeld'
    (try simp only [Act.put, List.setIfInBounds_toArray, List.set_cons_zero, List.set_cons_succ])
    refine wpAnyH_take (i := 4) (oi := ?_) (v := ?_) ?_ (by kernel_rfl) (by kernel_rfl) (by kernel_rfl) ?_ (Or.inl ⟨?_, ?_⟩) (by assumption) ?_
    rotate_left 2
    · (simp only [List.getElem?_toArray, List.getElem?_cons_zero, List.getElem?_cons_succ]; rfl)
    · exact fun _ _ _ h => h
    · rfl
    · (intro wS hSw; (try dsimp only at hSw); go_simp; (try with_reducible rfl))
    (try simp only [Act.put, List.setIfInBounds_toArray, List.set_cons_zero, List.set_cons_succ])
    refine wpAnyH_done (by kernel_rfl) ?_ _
    clear hb80 hHeld
    go_wp2_with fail
    refine wp_region_held_drew (S := fun w' => w'.cell? ⟨w69.heap.size, 0, none⟩ = some (.int .i64 p1x) ∧ w'.cell? ⟨w69.heap.size, 1, none⟩ = some (.slice (some ⟨g69, 0, none⟩) n1 n1) ∧ w'.cell? ⟨w.heap.size + 1, 0, none⟩ = some (.int .i64 p1x) ∧ w'.cell? ⟨w.heap.size + 1, 1, none⟩ = some (.slice a1 n1 c1)) (by kernel_rfl) ?_ (fun hHeld => ?_)
    · (try dsimp only)
      exact ⟨X1a_80, X1b_80, p1a_80, p1b_80⟩
    refine wpAnyH_take (i := 0) (oi := ?_) (v := ?_) ?_ (by kernel_rfl) (by kernel_rfl) (by kernel_rfl) ?_ (Or.inl ⟨?_, ?_⟩) (by assumption) ?_
    rotate_left 2
    · (simp only [List.getElem?_toArray, List.getElem?_cons_zero]; rfl)
    · exact fun _ _ _ h => h
    · rfl
    · (intro wS hSw; (try dsimp only at hSw); go_simp; (try with_reducible rfl))
    (try simp only [Act.put, List.setIfInBounds_toArray, List.set_cons_zero, List.set_cons_succ])
    refine wpAnyH_take (i := 1) (oi := ?_) (v := ?_) ?_ (by kernel_rfl) (by kernel_rfl) (by kernel_rfl) ?_ (Or.inl ⟨?_, ?_⟩) (by assumption) ?_
    rotate_left 2
    · (simp only [List.getElem?_toArray, List.getElem?_cons_zero, List.getElem?_cons_succ]; rfl)
    · exact fun _ _ _ h => h
    · rfl
    · (intro wS hSw; (try dsimp only at hSw); go_simp; (try with_reducible rfl))
    (try simp only [Act.put, List.setIfInBounds_toArray, List.set_cons_zero, List.set_cons_succ])
    refine wpAnyH_ready (rs := [2]) (by kernel_rfl) (by simp) ?_
    refine AllReadyH.cons (o := ?_) ?_ (fun K hK => ?_) AllReadyH.nil
    rotate_left
    · (simp only [List.getElem?_toArray, List.getElem?_cons_zero, List.getElem?_cons_succ]; rfl)
    go_simp
    go_at_call 34
    refine (toTableG _ _ _ z1 p1x _ hs1 (ha1.below B_80.drew)).mono ?_
    rintro e w81 ⟨g81, rfl, ho81, hd81⟩
    have hb81 : Below w80.heap.size w80 w81 := (Below.refl _ _).drew.trans hd81
    have p0a_81 := cell_later hb81 p0a_80
    have p0b_81 := cell_later hb81 p0b_80
    have p1a_81 := cell_later hb81 p1a_80
    have p1b_81 := cell_later hb81 p1b_80
    have p2a_81 := cell_later hb81 p2a_80
    have p2b_81 := cell_later hb81 p2b_80
    have p3a_81 := cell_later hb81 p3a_80
    have p3b_81 := cell_later hb81 p3b_80
    have Wa_81 := cell_later hb81 Wa_80
    have Wb_81 := cell_later hb81 Wb_80
    have X0a_81 := cell_later hb81 X0a_80
    have X0b_81 := cell_later hb81 X0b_80
    have X1a_81 := cell_later hb81 X1a_80
    have X1b_81 := cell_later hb81 X1b_80
    have X2a_81 := cell_later hb81 X2a_80
    have X2b_81 := cell_later hb81 X2b_80
    have X3a_81 := cell_later hb81 X3a_80
    have X3b_81 := cell_later hb81 X3b_80
    have Ga_81 := cell_later hb81 Ga_80
    have Gb_81 := cell_later hb81 Gb_80
    have o_81 := o_80.below hb81
    have x0_81 := x0_80.below hb81
    have x1_81 := x1_80.below hb81
    have x2_81 := x2_80.below hb81
    have x3_81 := x3_80.below hb81
    have x4_81 := x4_80.below hb81
    have g_81 := g_80.below hb81
    have B_81 := B_80.trans (hb81.mono B_80.size)
    have zz81 : w80.heap.size ≤ w81.heap.size := by have q := hb81.size; first | exact q | simpa using q
    clear p0a_80 p0b_80 p1a_80 p1b_80 p2a_80 p2b_80 p3a_80 p3b_80 Wa_80 Wb_80 X0a_80 X0b_80 X1a_80 X1b_80 X2a_80 X2b_80 X3a_80 X3b_80 Ga_80 Gb_80 o_80 x0_80 x1_80 x2_80 x3_80 x4_80 g_80 B_80
    (try go_wp2_with fail)
    refine hK.out _ _ ?_ (fun hHeld' => ?_)
    · (try dsimp only)
      exact ⟨X1a_81, X1b_81, p1a_81, p1b_81⟩
    clear hK K hHeld
    have hHeld := hHeld'
    clear hHeld'
    (try simp only [Act.put, List.setIfInBounds_toArray, List.set_cons_zero, List.set_cons_succ])
    clear hb81 hd81
    refine wpAnyH_ready (rs := [3]) (by kernel_rfl) (by simp) ?_
    refine AllReadyH.cons (o := ?_) ?_ (fun K hK => ?_) AllReadyH.nil
    rotate_left
    · (simp only [List.getElem?_toArray, List.getElem?_cons_zero, List.getElem?_cons_succ]; rfl)
    go_simp
    go_at_call 36
    refine (eqTableG _ _ _ _ _ z1 p1x _ hs1 (x1_81.atW hs1) (ho81.atW hs1)).mono ?_
    rintro e w82 ⟨rfl, hb82⟩
    clear ho81
    have p0a_82 := cell_later hb82 p0a_81
    have p0b_82 := cell_later hb82 p0b_81
    have p1a_82 := cell_later hb82 p1a_81
    have p1b_82 := cell_later hb82 p1b_81
    have p2a_82 := cell_later hb82 p2a_81
    have p2b_82 := cell_later hb82 p2b_81
    have p3a_82 := cell_later hb82 p3a_81
    have p3b_82 := cell_later hb82 p3b_81
    have Wa_82 := cell_later hb82 Wa_81
    have Wb_82 := cell_later hb82 Wb_81
    have X0a_82 := cell_later hb82 X0a_81
    have X0b_82 := cell_later hb82 X0b_81
    have X1a_82 := cell_later hb82 X1a_81
    have X1b_82 := cell_later hb82 X1b_81
    have X2a_82 := cell_later hb82 X2a_81
    have X2b_82 := cell_later hb82 X2b_81
    have X3a_82 := cell_later hb82 X3a_81
    have X3b_82 := cell_later hb82 X3b_81
    have Ga_82 := cell_later hb82 Ga_81
    have Gb_82 := cell_later hb82 Gb_81
    have o_82 := o_81.below hb82
    have x0_82 := x0_81.below hb82
    have x1_82 := x1_81.below hb82
    have x2_82 := x2_81.below hb82
    have x3_82 := x3_81.below hb82
    have x4_82 := x4_81.below hb82
    have g_82 := g_81.below hb82
    have B_82 := B_81.trans (hb82.mono B_81.size)
    have zz82 : w81.heap.size ≤ w82.heap.size := by have q := hb82.size; first | exact q | simpa using q
    clear p0a_81 p0b_81 p1a_81 p1b_81 p2a_81 p2b_81 p3a_81 p3b_81 Wa_81 Wb_81 X0a_81 X0b_81 X1a_81 X1b_81 X2a_81 X2b_81 X3a_81 X3b_81 Ga_81 Gb_81 o_81 x0_81 x1_81 x2_81 x3_81 x4_81 g_81 B_81
    (try go_wp2_with fail)
    refine hK.out _ _ ?_ (fun hHeld' => ?_)
    · (try dsimp only)
      exact ⟨X1a_82, X1b_82, p1a_82, p1b_82⟩
    clear hK K hHeld
    have hHeld := hHeld'
    clear hHeld'
    (try simp only [Act.put, List.setIfInBounds_toArray, List.set_cons_zero, List.set_cons_succ])
    refine wpAnyH_take (i := 4) (oi := ?_) (v := ?_) ?_ (by kernel_rfl) (by kernel_rfl) (by kernel_rfl) ?_ (Or.inl ⟨?_, ?_⟩) (by assumption) ?_
    rotate_left 2
    · (simp only [List.getElem?_toArray, List.getElem?_cons_zero, List.getElem?_cons_succ]; rfl)
    · exact fun _ _ _ h => h
    · rfl
    · (intro wS hSw; (try dsimp only at hSw); go_simp; (try with_reducible rfl))
    (try simp only [Act.put, List.setIfInBounds_toArray, List.set_cons_zero, List.set_cons_succ])
    refine wpAnyH_done (by kernel_rfl) ?_ _
    clear hb82 hHeld
    go_wp2_with fail
    refine wp_region_held_drew (S := fun w' => w'.cell? ⟨w71.heap.size, 0, none⟩ = some (.int .i64 p2x) ∧ w'.cell? ⟨w71.heap.size, 1, none⟩ = some (.slice (some ⟨g71, 0, none⟩) n2 n2) ∧ w'.cell? ⟨w.heap.size + 1 + 1, 0, none⟩ = some (.int .i64 p2x) ∧ w'.cell? ⟨w.heap.size + 1 + 1, 1, none⟩ = some (.slice a2 n2 c2)) (by kernel_rfl) ?_ (fun hHeld => ?_)
    · (try dsimp only)
      exact ⟨X2a_82, X2b_82, p2a_82, p2b_82⟩
    refine wpAnyH_take (i := 0) (oi := ?_) (v := ?_) ?_ (by kernel_rfl) (by kernel_rfl) (by kernel_rfl) ?_ (Or.inl ⟨?_, ?_⟩) (by assumption) ?_
    rotate_left 2
    · (simp only [List.getElem?_toArray, List.getElem?_cons_zero]; rfl)
    · exact fun _ _ _ h => h
    · rfl
    · (intro wS hSw; (try dsimp only at hSw); go_simp; (try with_reducible rfl))
    (try simp only [Act.put, List.setIfInBounds_toArray, List.set_cons_zero, List.set_cons_succ])
    refine wpAnyH_take (i := 1) (oi := ?_) (v := ?_) ?_ (by kernel_rfl) (by kernel_rfl) (by kernel_rfl) ?_ (Or.inl ⟨?_, ?_⟩) (by assumption) ?_
    rotate_left 2
    · (simp only [List.getElem?_toArray, List.getElem?_cons_zero, List.getElem?_cons_succ]; rfl)
    · exact fun _ _ _ h => h
    · rfl
    · (intro wS hSw; (try dsimp only at hSw); go_simp; (try with_reducible rfl))
    (try simp only [Act.put, List.setIfInBounds_toArray, List.set_cons_zero, List.set_cons_succ])
    refine wpAnyH_ready (rs := [2]) (by kernel_rfl) (by simp) ?_
    refine AllReadyH.cons (o := ?_) ?_ (fun K hK => ?_) AllReadyH.nil
    rotate_left
    · (simp only [List.getElem?_toArray, List.getElem?_cons_zero, List.getElem?_cons_succ]; rfl)
    go_simp
    go_at_call 34
    refine (toTableG _ _ _ z2 p2x _ hs2 (ha2.below B_82.drew)).mono ?_
    rintro e w83 ⟨g83, rfl, ho83, hd83⟩
    have hb83 : Below w82.heap.size w82 w83 := (Below.refl _ _).drew.trans hd83
    have p0a_83 := cell_later hb83 p0a_82
    have p0b_83 := cell_later hb83 p0b_82
    have p1a_83 := cell_later hb83 p1a_82
    have p1b_83 := cell_later hb83 p1b_82
    have p2a_83 := cell_later hb83 p2a_82
    have p2b_83 := cell_later hb83 p2b_82
    have p3a_83 := cell_later hb83 p3a_82
    have p3b_83 := cell_later hb83 p3b_82
    have Wa_83 := cell_later hb83 Wa_82
    have Wb_83 := cell_later hb83 Wb_82
    have X0a_83 := cell_later hb83 X0a_82
    have X0b_83 := cell_later hb83 X0b_82
    have X1a_83 := cell_later hb83 X1a_82
    have X1b_83 := cell_later hb83 X1b_82
    have X2a_83 := cell_later hb83 X2a_82
    have X2b_83 := cell_later hb83 X2b_82
    have X3a_83 := cell_later hb83 X3a_82
    have X3b_83 := cell_later hb83 X3b_82
    have Ga_83 := cell_later hb83 Ga_82
    have Gb_83 := cell_later hb83 Gb_82
    have o_83 := o_82.below hb83
    have x0_83 := x0_82.below hb83
    have x1_83 := x1_82.below hb83
    have x2_83 := x2_82.below hb83
    have x3_83 := x3_82.below hb83
    have x4_83 := x4_82.below hb83
    have g_83 := g_82.below hb83
    have B_83 := B_82.trans (hb83.mono B_82.size)
    have zz83 : w82.heap.size ≤ w83.heap.size := by have q := hb83.size; first | exact q | simpa using q
    clear p0a_82 p0b_82 p1a_82 p1b_82 p2a_82 p2b_82 p3a_82 p3b_82 Wa_82 Wb_82 X0a_82 X0b_82 X1a_82 X1b_82 X2a_82 X2b_82 X3a_82 X3b_82 Ga_82 Gb_82 o_82 x0_82 x1_82 x2_82 x3_82 x4_82 g_82 B_82
    (try go_wp2_with fail)
    refine hK.out _ _ ?_ (fun hHeld' => ?_)
    · (try dsimp only)
      exact ⟨X2a_83, X2b_83, p2a_83, p2b_83⟩
    clear hK K hHeld
    have hHeld := hHeld'
    clear hHeld'
    (try simp only [Act.put, List.setIfInBounds_toArray, List.set_cons_zero, List.set_cons_succ])
    clear hb83 hd83
    refine wpAnyH_ready (rs := [3]) (by kernel_rfl) (by simp) ?_
    refine AllReadyH.cons (o := ?_) ?_ (fun K hK => ?_) AllReadyH.nil
    rotate_left
    · (simp only [List.getElem?_toArray, List.getElem?_cons_zero, List.getElem?_cons_succ]; rfl)
    go_simp
    go_at_call 36
    refine (eqTableG _ _ _ _ _ z2 p2x _ hs2 (x2_83.atW hs2) (ho83.atW hs2)).mono ?_
    rintro e w84 ⟨rfl, hb84⟩
    clear ho83
    have p0a_84 := cell_later hb84 p0a_83
    have p0b_84 := cell_later hb84 p0b_83
    have p1a_84 := cell_later hb84 p1a_83
    have p1b_84 := cell_later hb84 p1b_83
    have p2a_84 := cell_later hb84 p2a_83
    have p2b_84 := cell_later hb84 p2b_83
    have p3a_84 := cell_later hb84 p3a_83
    have p3b_84 := cell_later hb84 p3b_83
    have Wa_84 := cell_later hb84 Wa_83
    have Wb_84 := cell_later hb84 Wb_83
    have X0a_84 := cell_later hb84 X0a_83
    have X0b_84 := cell_later hb84 X0b_83
    have X1a_84 := cell_later hb84 X1a_83
    have X1b_84 := cell_later hb84 X1b_83
    have X2a_84 := cell_later hb84 X2a_83
    have X2b_84 := cell_later hb84 X2b_83
    have X3a_84 := cell_later hb84 X3a_83
    have X3b_84 := cell_later hb84 X3b_83
    have Ga_84 := cell_later hb84 Ga_83
    have Gb_84 := cell_later hb84 Gb_83
    have o_84 := o_83.below hb84
    have x0_84 := x0_83.below hb84
    have x1_84 := x1_83.below hb84
    have x2_84 := x2_83.below hb84
    have x3_84 := x3_83.below hb84
    have x4_84 := x4_83.below hb84
    have g_84 := g_83.below hb84
    have B_84 := B_83.trans (hb84.mono B_83.size)
    have zz84 : w83.heap.size ≤ w84.heap.size := by have q := hb84.size; first | exact q | simpa using q
    clear p0a_83 p0b_83 p1a_83 p1b_83 p2a_83 p2b_83 p3a_83 p3b_83 Wa_83 Wb_83 X0a_83 X0b_83 X1a_83 X1b_83 X2a_83 X2b_83 X3a_83 X3b_83 Ga_83 Gb_83 o_83 x0_83 x1_83 x2_83 x3_83 x4_83 g_83 B_83
    (try go_wp2_with fail)
    refine hK.out _ _ ?_ (fun hHeld' => ?_)
    · (try dsimp only)
      exact ⟨X2a_84, X2b_84, p2a_84, p2b_84⟩
    clear hK K hHeld
    have hHeld := hHeld'
    clear hHeld'
    (try simp only [Act.put, List.setIfInBounds_toArray, List.set_cons_zero, List.set_cons_succ])
    refine wpAnyH_take (i := 4) (oi := ?_) (v := ?_) ?_ (by kernel_rfl) (by kernel_rfl) (by kernel_rfl) ?_ (Or.inl ⟨?_, ?_⟩) (by assumption) ?_
    rotate_left 2
    · (simp only [List.getElem?_toArray, List.getElem?_cons_zero, List.getElem?_cons_succ]; rfl)
    · exact fun _ _ _ h => h
    · rfl
    · (intro wS hSw; (try dsimp only at hSw); go_simp; (try with_reducible rfl))
    (try simp only [Act.put, List.setIfInBounds_toArray, List.set_cons_zero, List.set_cons_succ])
    refine wpAnyH_done (by kernel_rfl) ?_ _
    clear hb84 hHeld
    go_wp2_with fail
    refine wp_region_held_drew (S := fun w' => w'.cell? ⟨w73.heap.size, 0, none⟩ = some (.int .i64 p3x) ∧ w'.cell? ⟨w73.heap.size, 1, none⟩ = some (.slice (some ⟨g73, 0, none⟩) n3 n3) ∧ w'.cell? ⟨w.heap.size + 1 + 1 + 1, 0, none⟩ = some (.int .i64 p3x) ∧ w'.cell? ⟨w.heap.size + 1 + 1 + 1, 1, none⟩ = some (.slice a3 n3 c3)) (by kernel_rfl) ?_ (fun hHeld => ?_)
    · (try dsimp only)
      exact ⟨X3a_84, X3b_84, p3a_84, p3b_84⟩
    refine wpAnyH_take (i := 0) (oi := ?_) (v := ?_) ?_ (by kernel_rfl) (by kernel_rfl) (by kernel_rfl) ?_ (Or.inl ⟨?_, ?_⟩) (by assumption) ?_
    rotate_left 2
    · (simp only [List.getElem?_toArray, List.getElem?_cons_zero]; rfl)
    · exact fun _ _ _ h => h
    · rfl
    · (intro wS hSw; (try dsimp only at hSw); go_simp; (try with_reducible rfl))
    (try simp only [Act.put, List.setIfInBounds_toArray, List.set_cons_zero, List.set_cons_succ])
    refine wpAnyH_take (i := 1) (oi := ?_) (v := ?_) ?_ (by kernel_rfl) (by kernel_rfl) (by kernel_rfl) ?_ (Or.inl ⟨?_, ?_⟩) (by assumption) ?_
    rotate_left 2
    · (simp only [List.getElem?_toArray, List.getElem?_cons_zero, List.getElem?_cons_succ]; rfl)
    · exact fun _ _ _ h => h
    · rfl
    · (intro wS hSw; (try dsimp only at hSw); go_simp; (try with_reducible rfl))
    (try simp only [Act.put, List.setIfInBounds_toArray, List.set_cons_zero, List.set_cons_succ])
    refine wpAnyH_ready (rs := [2]) (by kernel_rfl) (by simp) ?_
    refine AllReadyH.cons (o := ?_) ?_ (fun K hK => ?_) AllReadyH.nil
    rotate_left
    · (simp only [List.getElem?_toArray, List.getElem?_cons_zero, List.getElem?_cons_succ]; rfl)
    go_simp
    go_at_call 34
    refine (toTableG _ _ _ z3 p3x _ hs3 (ha3.below B_84.drew)).mono ?_
    rintro e w85 ⟨g85, rfl, ho85, hd85⟩
    have hb85 : Below w84.heap.size w84 w85 := (Below.refl _ _).drew.trans hd85
    have p0a_85 := cell_later hb85 p0a_84
    have p0b_85 := cell_later hb85 p0b_84
    have p1a_85 := cell_later hb85 p1a_84
    have p1b_85 := cell_later hb85 p1b_84
    have p2a_85 := cell_later hb85 p2a_84
    have p2b_85 := cell_later hb85 p2b_84
    have p3a_85 := cell_later hb85 p3a_84
    have p3b_85 := cell_later hb85 p3b_84
    have Wa_85 := cell_later hb85 Wa_84
    have Wb_85 := cell_later hb85 Wb_84
    have X0a_85 := cell_later hb85 X0a_84
    have X0b_85 := cell_later hb85 X0b_84
    have X1a_85 := cell_later hb85 X1a_84
    have X1b_85 := cell_later hb85 X1b_84
    have X2a_85 := cell_later hb85 X2a_84
    have X2b_85 := cell_later hb85 X2b_84
    have X3a_85 := cell_later hb85 X3a_84
    have X3b_85 := cell_later hb85 X3b_84
    have Ga_85 := cell_later hb85 Ga_84
    have Gb_85 := cell_later hb85 Gb_84
    have o_85 := o_84.below hb85
    have x0_85 := x0_84.below hb85
    have x1_85 := x1_84.below hb85
    have x2_85 := x2_84.below hb85
    have x3_85 := x3_84.below hb85
    have x4_85 := x4_84.below hb85
    have g_85 := g_84.below hb85
    have B_85 := B_84.trans (hb85.mono B_84.size)
    have zz85 : w84.heap.size ≤ w85.heap.size := by have q := hb85.size; first | exact q | simpa using q
    clear p0a_84 p0b_84 p1a_84 p1b_84 p2a_84 p2b_84 p3a_84 p3b_84 Wa_84 Wb_84 X0a_84 X0b_84 X1a_84 X1b_84 X2a_84 X2b_84 X3a_84 X3b_84 Ga_84 Gb_84 o_84 x0_84 x1_84 x2_84 x3_84 x4_84 g_84 B_84
    (try go_wp2_with fail)
    refine hK.out _ _ ?_ (fun hHeld' => ?_)
    · (try dsimp only)
      exact ⟨X3a_85, X3b_85, p3a_85, p3b_85⟩
    clear hK K hHeld
    have hHeld := hHeld'
    clear hHeld'
    (try simp only [Act.put, List.setIfInBounds_toArray, List.set_cons_zero, List.set_cons_succ])
    clear hb85 hd85
    refine wpAnyH_ready (rs := [3]) (by kernel_rfl) (by simp) ?_
    refine AllReadyH.cons (o := ?_) ?_ (fun K hK => ?_) AllReadyH.nil
    rotate_left
    · (simp only [List.getElem?_toArray, List.getElem?_cons_zero, List.getElem?_cons_succ]; rfl)
    go_simp
    go_at_call 36
    refine (eqTableG _ _ _ _ _ z3 p3x _ hs3 (x3_85.atW hs3) (ho85.atW hs3)).mono ?_
    rintro e w86 ⟨rfl, hb86⟩
    clear ho85
    have p0a_86 := cell_later hb86 p0a_85
    have p0b_86 := cell_later hb86 p0b_85
    have p1a_86 := cell_later hb86 p1a_85
    have p1b_86 := cell_later hb86 p1b_85
    have p2a_86 := cell_later hb86 p2a_85
    have p2b_86 := cell_later hb86 p2b_85
    have p3a_86 := cell_later hb86 p3a_85
    have p3b_86 := cell_later hb86 p3b_85
    have Wa_86 := cell_later hb86 Wa_85
    have Wb_86 := cell_later hb86 Wb_85
    have X0a_86 := cell_later hb86 X0a_85
    have X0b_86 := cell_later hb86 X0b_85
    have X1a_86 := cell_later hb86 X1a_85
    have X1b_86 := cell_later hb86 X1b_85
    have X2a_86 := cell_later hb86 X2a_85
    have X2b_86 := cell_later hb86 X2b_85
    have X3a_86 := cell_later hb86 X3a_85
    have X3b_86 := cell_later hb86 X3b_85
    have Ga_86 := cell_later hb86 Ga_85
    have Gb_86 := cell_later hb86 Gb_85
    have o_86 := o_85.below hb86
    have x0_86 := x0_85.below hb86
    have x1_86 := x1_85.below hb86
    have x2_86 := x2_85.below hb86
    have x3_86 := x3_85.below hb86
    have x4_86 := x4_85.below hb86
    have g_86 := g_85.below hb86
    have B_86 := B_85.trans (hb86.mono B_85.size)
    have zz86 : w85.heap.size ≤ w86.heap.size := by have q := hb86.size; first | exact q | simpa using q
    clear p0a_85 p0b_85 p1a_85 p1b_85 p2a_85 p2b_85 p3a_85 p3b_85 Wa_85 Wb_85 X0a_85 X0b_85 X1a_85 X1b_85 X2a_85 X2b_85 X3a_85 X3b_85 Ga_85 Gb_85 o_85 x0_85 x1_85 x2_85 x3_85 x4_85 g_85 B_85
    (try go_wp2_with fail)
    refine hK.out _ _ ?_ (fun hHeld' => ?_)
    · (try dsimp only)
      exact ⟨X3a_86, X3b_86, p3a_86, p3b_86⟩
    clear hK K hHeld
    have hHeld := hHeld'
    clear hHeld'
    (try simp only [Act.put, List.setIfInBounds_toArray, List.set_cons_zero, List.set_cons_succ])
    refine wpAnyH_take (i := 4) (oi := ?_) (v := ?_) ?_ (by kernel_rfl) (by kernel_rfl) (by kernel_rfl) ?_ (Or.inl ⟨?_, ?_⟩) (by assumption) ?_
    rotate_left 2
    · (simp only [List.getElem?_toArray, List.getElem?_cons_zero, List.getElem?_cons_succ]; rfl)
    · exact fun _ _ _ h => h
    · rfl
    · (intro wS hSw; (try dsimp only at hSw); go_simp; (try with_reducible rfl))
    (try simp only [Act.put, List.setIfInBounds_toArray, List.set_cons_zero, List.set_cons_succ])
    refine wpAnyH_done (by kernel_rfl) ?_ _
    clear hb86 hHeld
    go_wp2_with fail
    refine (toIntSSG _ _ _ z4 _ hs4 (ha4.below B_86)).mono ?_
    rintro e w87 ⟨g87, rfl, ho87, hb87⟩
    have p0a_87 := cell_later hb87 p0a_86
    have p0b_87 := cell_later hb87 p0b_86
    have p1a_87 := cell_later hb87 p1a_86
    have p1b_87 := cell_later hb87 p1b_86
    have p2a_87 := cell_later hb87 p2a_86
    have p2b_87 := cell_later hb87 p2b_86
    have p3a_87 := cell_later hb87 p3a_86
    have p3b_87 := cell_later hb87 p3b_86
    have Wa_87 := cell_later hb87 Wa_86
    have Wb_87 := cell_later hb87 Wb_86
    have X0a_87 := cell_later hb87 X0a_86
    have X0b_87 := cell_later hb87 X0b_86
    have X1a_87 := cell_later hb87 X1a_86
    have X1b_87 := cell_later hb87 X1b_86
    have X2a_87 := cell_later hb87 X2a_86
    have X2b_87 := cell_later hb87 X2b_86
    have X3a_87 := cell_later hb87 X3a_86
    have X3b_87 := cell_later hb87 X3b_86
    have Ga_87 := cell_later hb87 Ga_86
    have Gb_87 := cell_later hb87 Gb_86
    have o_87 := o_86.below hb87
    have x0_87 := x0_86.below hb87
    have x1_87 := x1_86.below hb87
    have x2_87 := x2_86.below hb87
    have x3_87 := x3_86.below hb87
    have x4_87 := x4_86.below hb87
    have g_87 := g_86.below hb87
    have B_87 := B_86.trans (hb87.mono B_86.size)
    have zz87 : w86.heap.size ≤ w87.heap.size := by have q := hb87.size; first | exact q | simpa using q
    clear p0a_86 p0b_86 p1a_86 p1b_86 p2a_86 p2b_86 p3a_86 p3b_86 Wa_86 Wb_86 X0a_86 X0b_86 X1a_86 X1b_86 X2a_86 X2b_86 X3a_86 X3b_86 Ga_86 Gb_86 o_86 x0_86 x1_86 x2_86 x3_86 x4_86 g_86 B_86
    clear hb87
    go_wp2_with fail
    refine (eqIntSSG _ _ _ _ _ z4 _ hs4 (x4_87.at hs4) (ho87.at hs4)).mono ?_
    rintro e w88 ⟨rfl, hb88⟩
    have p0a_88 := cell_later hb88 p0a_87
    have p0b_88 := cell_later hb88 p0b_87
    have p1a_88 := cell_later hb88 p1a_87
    have p1b_88 := cell_later hb88 p1b_87
    have p2a_88 := cell_later hb88 p2a_87
    have p2b_88 := cell_later hb88 p2b_87
    have p3a_88 := cell_later hb88 p3a_87
    have p3b_88 := cell_later hb88 p3b_87
    have Wa_88 := cell_later hb88 Wa_87
    have Wb_88 := cell_later hb88 Wb_87
    have X0a_88 := cell_later hb88 X0a_87
    have X0b_88 := cell_later hb88 X0b_87
    have X1a_88 := cell_later hb88 X1a_87
    have X1b_88 := cell_later hb88 X1b_87
    have X2a_88 := cell_later hb88 X2a_87
    have X2b_88 := cell_later hb88 X2b_87
    have X3a_88 := cell_later hb88 X3a_87
    have X3b_88 := cell_later hb88 X3b_87
    have Ga_88 := cell_later hb88 Ga_87
    have Gb_88 := cell_later hb88 Gb_87
    have o_88 := o_87.below hb88
    have x0_88 := x0_87.below hb88
    have x1_88 := x1_87.below hb88
    have x2_88 := x2_87.below hb88
    have x3_88 := x3_87.below hb88
    have x4_88 := x4_87.below hb88
    have g_88 := g_87.below hb88
    have y_88 := ho87.below hb88
    have B_88 := B_87.trans (hb88.mono B_87.size)
    have zz88 : w87.heap.size ≤ w88.heap.size := by have q := hb88.size; first | exact q | simpa using q
    clear p0a_87 p0b_87 p1a_87 p1b_87 p2a_87 p2b_87 p3a_87 p3b_87 Wa_87 Wb_87 X0a_87 X0b_87 X1a_87 X1b_87 X2a_87 X2b_87 X3a_87 X3b_87 Ga_87 Gb_87 o_87 x0_87 x1_87 x2_87 x3_87 x4_87 g_87 ho87 B_87
    clear hb88
    clear y_88
    go_wp2_with fail
    refine (markTableG _ _ _ _ _ z0 p0x _ _ hs0 (by omega) (by omega) x0_88).mono ?_
    rintro e w89 ⟨rfl, ho89, ha89⟩
    have p0a_89 := ha89.cell p0a_88 (show w.heap.size < w66.heap.size ∨ w67.heap.size ≤ w.heap.size by omega)
    have p0b_89 := ha89.cell p0b_88 (show w.heap.size < w66.heap.size ∨ w67.heap.size ≤ w.heap.size by omega)
    have p1a_89 := ha89.cell p1a_88 (show w.heap.size + 1 < w66.heap.size ∨ w67.heap.size ≤ w.heap.size + 1 by omega)
    have p1b_89 := ha89.cell p1b_88 (show w.heap.size + 1 < w66.heap.size ∨ w67.heap.size ≤ w.heap.size + 1 by omega)
    have p2a_89 := ha89.cell p2a_88 (show w.heap.size + 1 + 1 < w66.heap.size ∨ w67.heap.size ≤ w.heap.size + 1 + 1 by omega)
    have p2b_89 := ha89.cell p2b_88 (show w.heap.size + 1 + 1 < w66.heap.size ∨ w67.heap.size ≤ w.heap.size + 1 + 1 by omega)
    have p3a_89 := ha89.cell p3a_88 (show w.heap.size + 1 + 1 + 1 < w66.heap.size ∨ w67.heap.size ≤ w.heap.size + 1 + 1 + 1 by omega)
    have p3b_89 := ha89.cell p3b_88 (show w.heap.size + 1 + 1 + 1 < w66.heap.size ∨ w67.heap.size ≤ w.heap.size + 1 + 1 + 1 by omega)
    have Wa_89 := ha89.cell Wa_88 (show Pb66 < w66.heap.size ∨ w67.heap.size ≤ Pb66 by omega)
    have Wb_89 := ha89.cell Wb_88 (show Pb66 < w66.heap.size ∨ w67.heap.size ≤ Pb66 by omega)
    have X0a_89 := ha89.cell X0a_88 (show w67.heap.size < w66.heap.size ∨ w67.heap.size ≤ w67.heap.size by omega)
    have X0b_89 := ha89.cell X0b_88 (show w67.heap.size < w66.heap.size ∨ w67.heap.size ≤ w67.heap.size by omega)
    have X1a_89 := ha89.cell X1a_88 (show w69.heap.size < w66.heap.size ∨ w67.heap.size ≤ w69.heap.size by omega)
    have X1b_89 := ha89.cell X1b_88 (show w69.heap.size < w66.heap.size ∨ w67.heap.size ≤ w69.heap.size by omega)
    have X2a_89 := ha89.cell X2a_88 (show w71.heap.size < w66.heap.size ∨ w67.heap.size ≤ w71.heap.size by omega)
    have X2b_89 := ha89.cell X2b_88 (show w71.heap.size < w66.heap.size ∨ w67.heap.size ≤ w71.heap.size by omega)
    have X3a_89 := ha89.cell X3a_88 (show w73.heap.size < w66.heap.size ∨ w67.heap.size ≤ w73.heap.size by omega)
    have X3b_89 := ha89.cell X3b_88 (show w73.heap.size < w66.heap.size ∨ w67.heap.size ≤ w73.heap.size by omega)
    have Ga_89 := ha89.cell Ga_88 (show w76.heap.size < w66.heap.size ∨ w67.heap.size ≤ w76.heap.size by omega)
    have Gb_89 := ha89.cell Gb_88 (show w76.heap.size < w66.heap.size ∨ w67.heap.size ≤ w76.heap.size by omega)
    have o_89 := o_88.apartW ha89 (by omega)
    have x1_89 := x1_88.apartW ha89 (by omega)
    have x2_89 := x2_88.apartW ha89 (by omega)
    have x3_89 := x3_88.apartW ha89 (by omega)
    have x4_89 := x4_88.apartW ha89 (by omega)
    have g_89 := g_88.apartW ha89 (by omega)
    have B_89 := B_88.trans (ha89.below B_88.size (by omega))
    have zz89 : w88.heap.size ≤ w89.heap.size := by have q := ha89.size; first | exact q | simpa using q
    clear ha89 p0a_88 p0b_88 p1a_88 p1b_88 p2a_88 p2b_88 p3a_88 p3b_88 Wa_88 Wb_88 X0a_88 X0b_88 X1a_88 X1b_88 X2a_88 X2b_88 X3a_88 X3b_88 Ga_88 Gb_88 o_88 x0_88 x1_88 x2_88 x3_88 x4_88 g_88 B_88
    go_wp2_with fail
    refine (markTableG _ _ _ _ _ z1 p1x _ _ hs1 (by omega) (by omega) x1_89).mono ?_
    rintro e w90 ⟨rfl, ho90, ha90⟩
    have p0a_90 := ha90.cell p0a_89 (show w.heap.size < w67.heap.size + 1 ∨ w69.heap.size ≤ w.heap.size by omega)
    have p0b_90 := ha90.cell p0b_89 (show w.heap.size < w67.heap.size + 1 ∨ w69.heap.size ≤ w.heap.size by omega)
    have p1a_90 := ha90.cell p1a_89 (show w.heap.size + 1 < w67.heap.size + 1 ∨ w69.heap.size ≤ w.heap.size + 1 by omega)
    have p1b_90 := ha90.cell p1b_89 (show w.heap.size + 1 < w67.heap.size + 1 ∨ w69.heap.size ≤ w.heap.size + 1 by omega)
    have p2a_90 := ha90.cell p2a_89 (show w.heap.size + 1 + 1 < w67.heap.size + 1 ∨ w69.heap.size ≤ w.heap.size + 1 + 1 by omega)
    have p2b_90 := ha90.cell p2b_89 (show w.heap.size + 1 + 1 < w67.heap.size + 1 ∨ w69.heap.size ≤ w.heap.size + 1 + 1 by omega)
    have p3a_90 := ha90.cell p3a_89 (show w.heap.size + 1 + 1 + 1 < w67.heap.size + 1 ∨ w69.heap.size ≤ w.heap.size + 1 + 1 + 1 by omega)
    have p3b_90 := ha90.cell p3b_89 (show w.heap.size + 1 + 1 + 1 < w67.heap.size + 1 ∨ w69.heap.size ≤ w.heap.size + 1 + 1 + 1 by omega)
    have Wa_90 := ha90.cell Wa_89 (show Pb66 < w67.heap.size + 1 ∨ w69.heap.size ≤ Pb66 by omega)
    have Wb_90 := ha90.cell Wb_89 (show Pb66 < w67.heap.size + 1 ∨ w69.heap.size ≤ Pb66 by omega)
    have X0a_90 := ha90.cell X0a_89 (show w67.heap.size < w67.heap.size + 1 ∨ w69.heap.size ≤ w67.heap.size by omega)
    have X0b_90 := ha90.cell X0b_89 (show w67.heap.size < w67.heap.size + 1 ∨ w69.heap.size ≤ w67.heap.size by omega)
    have X1a_90 := ha90.cell X1a_89 (show w69.heap.size < w67.heap.size + 1 ∨ w69.heap.size ≤ w69.heap.size by omega)
    have X1b_90 := ha90.cell X1b_89 (show w69.heap.size < w67.heap.size + 1 ∨ w69.heap.size ≤ w69.heap.size by omega)
    have X2a_90 := ha90.cell X2a_89 (show w71.heap.size < w67.heap.size + 1 ∨ w69.heap.size ≤ w71.heap.size by omega)
    have X2b_90 := ha90.cell X2b_89 (show w71.heap.size < w67.heap.size + 1 ∨ w69.heap.size ≤ w71.heap.size by omega)
    have X3a_90 := ha90.cell X3a_89 (show w73.heap.size < w67.heap.size + 1 ∨ w69.heap.size ≤ w73.heap.size by omega)
    have X3b_90 := ha90.cell X3b_89 (show w73.heap.size < w67.heap.size + 1 ∨ w69.heap.size ≤ w73.heap.size by omega)
    have Ga_90 := ha90.cell Ga_89 (show w76.heap.size < w67.heap.size + 1 ∨ w69.heap.size ≤ w76.heap.size by omega)
    have Gb_90 := ha90.cell Gb_89 (show w76.heap.size < w67.heap.size + 1 ∨ w69.heap.size ≤ w76.heap.size by omega)
    have o_90 := o_89.apartW ha90 (by omega)
    have x0_90 := ho89.apartW ha90 (by omega)
    have x2_90 := x2_89.apartW ha90 (by omega)
    have x3_90 := x3_89.apartW ha90 (by omega)
    have x4_90 := x4_89.apartW ha90 (by omega)
    have g_90 := g_89.apartW ha90 (by omega)
    have B_90 := B_89.trans (ha90.below B_89.size (by omega))
    have zz90 : w89.heap.size ≤ w90.heap.size := by have q := ha90.size; first | exact q | simpa using q
    clear ha90 p0a_89 p0b_89 p1a_89 p1b_89 p2a_89 p2b_89 p3a_89 p3b_89 Wa_89 Wb_89 X0a_89 X0b_89 X1a_89 X1b_89 X2a_89 X2b_89 X3a_89 X3b_89 Ga_89 Gb_89 o_89 ho89 x1_89 x2_89 x3_89 x4_89 g_89 B_89
    go_wp2_with fail
    refine (markTableG _ _ _ _ _ z2 p2x _ _ hs2 (by omega) (by omega) x2_90).mono ?_
    rintro e w91 ⟨rfl, ho91, ha91⟩
    have p0a_91 := ha91.cell p0a_90 (show w.heap.size < w69.heap.size + 1 ∨ w71.heap.size ≤ w.heap.size by omega)
    have p0b_91 := ha91.cell p0b_90 (show w.heap.size < w69.heap.size + 1 ∨ w71.heap.size ≤ w.heap.size by omega)
    have p1a_91 := ha91.cell p1a_90 (show w.heap.size + 1 < w69.heap.size + 1 ∨ w71.heap.size ≤ w.heap.size + 1 by omega)
    have p1b_91 := ha91.cell p1b_90 (show w.heap.size + 1 < w69.heap.size + 1 ∨ w71.heap.size ≤ w.heap.size + 1 by omega)
    have p2a_91 := ha91.cell p2a_90 (show w.heap.size + 1 + 1 < w69.heap.size + 1 ∨ w71.heap.size ≤ w.heap.size + 1 + 1 by omega)
    have p2b_91 := ha91.cell p2b_90 (show w.heap.size + 1 + 1 < w69.heap.size + 1 ∨ w71.heap.size ≤ w.heap.size + 1 + 1 by omega)
    have p3a_91 := ha91.cell p3a_90 (show w.heap.size + 1 + 1 + 1 < w69.heap.size + 1 ∨ w71.heap.size ≤ w.heap.size + 1 + 1 + 1 by omega)
    have p3b_91 := ha91.cell p3b_90 (show w.heap.size + 1 + 1 + 1 < w69.heap.size + 1 ∨ w71.heap.size ≤ w.heap.size + 1 + 1 + 1 by omega)
    have Wa_91 := ha91.cell Wa_90 (show Pb66 < w69.heap.size + 1 ∨ w71.heap.size ≤ Pb66 by omega)
    have Wb_91 := ha91.cell Wb_90 (show Pb66 < w69.heap.size + 1 ∨ w71.heap.size ≤ Pb66 by omega)
    have X0a_91 := ha91.cell X0a_90 (show w67.heap.size < w69.heap.size + 1 ∨ w71.heap.size ≤ w67.heap.size by omega)
    have X0b_91 := ha91.cell X0b_90 (show w67.heap.size < w69.heap.size + 1 ∨ w71.heap.size ≤ w67.heap.size by omega)
    have X1a_91 := ha91.cell X1a_90 (show w69.heap.size < w69.heap.size + 1 ∨ w71.heap.size ≤ w69.heap.size by omega)
    have X1b_91 := ha91.cell X1b_90 (show w69.heap.size < w69.heap.size + 1 ∨ w71.heap.size ≤ w69.heap.size by omega)
    have X2a_91 := ha91.cell X2a_90 (show w71.heap.size < w69.heap.size + 1 ∨ w71.heap.size ≤ w71.heap.size by omega)
    have X2b_91 := ha91.cell X2b_90 (show w71.heap.size < w69.heap.size + 1 ∨ w71.heap.size ≤ w71.heap.size by omega)
    have X3a_91 := ha91.cell X3a_90 (show w73.heap.size < w69.heap.size + 1 ∨ w71.heap.size ≤ w73.heap.size by omega)
    have X3b_91 := ha91.cell X3b_90 (show w73.heap.size < w69.heap.size + 1 ∨ w71.heap.size ≤ w73.heap.size by omega)
    have Ga_91 := ha91.cell Ga_90 (show w76.heap.size < w69.heap.size + 1 ∨ w71.heap.size ≤ w76.heap.size by omega)
    have Gb_91 := ha91.cell Gb_90 (show w76.heap.size < w69.heap.size + 1 ∨ w71.heap.size ≤ w76.heap.size by omega)
    have o_91 := o_90.apartW ha91 (by omega)
    have x0_91 := x0_90.apartW ha91 (by omega)
    have x1_91 := ho90.apartW ha91 (by omega)
    have x3_91 := x3_90.apartW ha91 (by omega)
    have x4_91 := x4_90.apartW ha91 (by omega)
    have g_91 := g_90.apartW ha91 (by omega)
    have B_91 := B_90.trans (ha91.below B_90.size (by omega))
    have zz91 : w90.heap.size ≤ w91.heap.size := by have q := ha91.size; first | exact q | simpa using q
    clear ha91 p0a_90 p0b_90 p1a_90 p1b_90 p2a_90 p2b_90 p3a_90 p3b_90 Wa_90 Wb_90 X0a_90 X0b_90 X1a_90 X1b_90 X2a_90 X2b_90 X3a_90 X3b_90 Ga_90 Gb_90 o_90 x0_90 ho90 x2_90 x3_90 x4_90 g_90 B_90
    go_wp2_with fail
    refine (markTableG _ _ _ _ _ z3 p3x _ _ hs3 (by omega) (by omega) x3_91).mono ?_
    rintro e w92 ⟨rfl, ho92, ha92⟩
    have p0a_92 := ha92.cell p0a_91 (show w.heap.size < w71.heap.size + 1 ∨ w73.heap.size ≤ w.heap.size by omega)
    have p0b_92 := ha92.cell p0b_91 (show w.heap.size < w71.heap.size + 1 ∨ w73.heap.size ≤ w.heap.size by omega)
    have p1a_92 := ha92.cell p1a_91 (show w.heap.size + 1 < w71.heap.size + 1 ∨ w73.heap.size ≤ w.heap.size + 1 by omega)
    have p1b_92 := ha92.cell p1b_91 (show w.heap.size + 1 < w71.heap.size + 1 ∨ w73.heap.size ≤ w.heap.size + 1 by omega)
    have p2a_92 := ha92.cell p2a_91 (show w.heap.size + 1 + 1 < w71.heap.size + 1 ∨ w73.heap.size ≤ w.heap.size + 1 + 1 by omega)
    have p2b_92 := ha92.cell p2b_91 (show w.heap.size + 1 + 1 < w71.heap.size + 1 ∨ w73.heap.size ≤ w.heap.size + 1 + 1 by omega)
    have p3a_92 := ha92.cell p3a_91 (show w.heap.size + 1 + 1 + 1 < w71.heap.size + 1 ∨ w73.heap.size ≤ w.heap.size + 1 + 1 + 1 by omega)
    have p3b_92 := ha92.cell p3b_91 (show w.heap.size + 1 + 1 + 1 < w71.heap.size + 1 ∨ w73.heap.size ≤ w.heap.size + 1 + 1 + 1 by omega)
    have Wa_92 := ha92.cell Wa_91 (show Pb66 < w71.heap.size + 1 ∨ w73.heap.size ≤ Pb66 by omega)
    have Wb_92 := ha92.cell Wb_91 (show Pb66 < w71.heap.size + 1 ∨ w73.heap.size ≤ Pb66 by omega)
    have X0a_92 := ha92.cell X0a_91 (show w67.heap.size < w71.heap.size + 1 ∨ w73.heap.size ≤ w67.heap.size by omega)
    have X0b_92 := ha92.cell X0b_91 (show w67.heap.size < w71.heap.size + 1 ∨ w73.heap.size ≤ w67.heap.size by omega)
    have X1a_92 := ha92.cell X1a_91 (show w69.heap.size < w71.heap.size + 1 ∨ w73.heap.size ≤ w69.heap.size by omega)
    have X1b_92 := ha92.cell X1b_91 (show w69.heap.size < w71.heap.size + 1 ∨ w73.heap.size ≤ w69.heap.size by omega)
    have X2a_92 := ha92.cell X2a_91 (show w71.heap.size < w71.heap.size + 1 ∨ w73.heap.size ≤ w71.heap.size by omega)
    have X2b_92 := ha92.cell X2b_91 (show w71.heap.size < w71.heap.size + 1 ∨ w73.heap.size ≤ w71.heap.size by omega)
    have X3a_92 := ha92.cell X3a_91 (show w73.heap.size < w71.heap.size + 1 ∨ w73.heap.size ≤ w73.heap.size by omega)
    have X3b_92 := ha92.cell X3b_91 (show w73.heap.size < w71.heap.size + 1 ∨ w73.heap.size ≤ w73.heap.size by omega)
    have Ga_92 := ha92.cell Ga_91 (show w76.heap.size < w71.heap.size + 1 ∨ w73.heap.size ≤ w76.heap.size by omega)
    have Gb_92 := ha92.cell Gb_91 (show w76.heap.size < w71.heap.size + 1 ∨ w73.heap.size ≤ w76.heap.size by omega)
    have o_92 := o_91.apartW ha92 (by omega)
    have x0_92 := x0_91.apartW ha92 (by omega)
    have x1_92 := x1_91.apartW ha92 (by omega)
    have x2_92 := ho91.apartW ha92 (by omega)
    have x4_92 := x4_91.apartW ha92 (by omega)
    have g_92 := g_91.apartW ha92 (by omega)
    have B_92 := B_91.trans (ha92.below B_91.size (by omega))
    have zz92 : w91.heap.size ≤ w92.heap.size := by have q := ha92.size; first | exact q | simpa using q
    clear ha92 p0a_91 p0b_91 p1a_91 p1b_91 p2a_91 p2b_91 p3a_91 p3b_91 Wa_91 Wb_91 X0a_91 X0b_91 X1a_91 X1b_91 X2a_91 X2b_91 X3a_91 X3b_91 Ga_91 Gb_91 o_91 x0_91 x1_91 ho91 x3_91 x4_91 g_91 B_91
    go_wp2_with fail
    refine (markIntSSG _ _ _ _ _ z4 _ _ hs4 (by omega) (by omega) x4_92).mono ?_
    rintro e w93 ⟨rfl, ho93, ha93⟩
    have p0a_93 := ha93.cell p0a_92 (show w.heap.size < w73.heap.size + 1 ∨ w75.heap.size ≤ w.heap.size by omega)
    have p0b_93 := ha93.cell p0b_92 (show w.heap.size < w73.heap.size + 1 ∨ w75.heap.size ≤ w.heap.size by omega)
    have p1a_93 := ha93.cell p1a_92 (show w.heap.size + 1 < w73.heap.size + 1 ∨ w75.heap.size ≤ w.heap.size + 1 by omega)
    have p1b_93 := ha93.cell p1b_92 (show w.heap.size + 1 < w73.heap.size + 1 ∨ w75.heap.size ≤ w.heap.size + 1 by omega)
    have p2a_93 := ha93.cell p2a_92 (show w.heap.size + 1 + 1 < w73.heap.size + 1 ∨ w75.heap.size ≤ w.heap.size + 1 + 1 by omega)
    have p2b_93 := ha93.cell p2b_92 (show w.heap.size + 1 + 1 < w73.heap.size + 1 ∨ w75.heap.size ≤ w.heap.size + 1 + 1 by omega)
    have p3a_93 := ha93.cell p3a_92 (show w.heap.size + 1 + 1 + 1 < w73.heap.size + 1 ∨ w75.heap.size ≤ w.heap.size + 1 + 1 + 1 by omega)
    have p3b_93 := ha93.cell p3b_92 (show w.heap.size + 1 + 1 + 1 < w73.heap.size + 1 ∨ w75.heap.size ≤ w.heap.size + 1 + 1 + 1 by omega)
    have Wa_93 := ha93.cell Wa_92 (show Pb66 < w73.heap.size + 1 ∨ w75.heap.size ≤ Pb66 by omega)
    have Wb_93 := ha93.cell Wb_92 (show Pb66 < w73.heap.size + 1 ∨ w75.heap.size ≤ Pb66 by omega)
    have X0a_93 := ha93.cell X0a_92 (show w67.heap.size < w73.heap.size + 1 ∨ w75.heap.size ≤ w67.heap.size by omega)
    have X0b_93 := ha93.cell X0b_92 (show w67.heap.size < w73.heap.size + 1 ∨ w75.heap.size ≤ w67.heap.size by omega)
    have X1a_93 := ha93.cell X1a_92 (show w69.heap.size < w73.heap.size + 1 ∨ w75.heap.size ≤ w69.heap.size by omega)
    have X1b_93 := ha93.cell X1b_92 (show w69.heap.size < w73.heap.size + 1 ∨ w75.heap.size ≤ w69.heap.size by omega)
    have X2a_93 := ha93.cell X2a_92 (show w71.heap.size < w73.heap.size + 1 ∨ w75.heap.size ≤ w71.heap.size by omega)
    have X2b_93 := ha93.cell X2b_92 (show w71.heap.size < w73.heap.size + 1 ∨ w75.heap.size ≤ w71.heap.size by omega)
    have X3a_93 := ha93.cell X3a_92 (show w73.heap.size < w73.heap.size + 1 ∨ w75.heap.size ≤ w73.heap.size by omega)
    have X3b_93 := ha93.cell X3b_92 (show w73.heap.size < w73.heap.size + 1 ∨ w75.heap.size ≤ w73.heap.size by omega)
    have Ga_93 := ha93.cell Ga_92 (show w76.heap.size < w73.heap.size + 1 ∨ w75.heap.size ≤ w76.heap.size by omega)
    have Gb_93 := ha93.cell Gb_92 (show w76.heap.size < w73.heap.size + 1 ∨ w75.heap.size ≤ w76.heap.size by omega)
    have o_93 := o_92.apartW ha93 (by omega)
    have x0_93 := x0_92.apartW ha93 (by omega)
    have x1_93 := x1_92.apartW ha93 (by omega)
    have x2_93 := x2_92.apartW ha93 (by omega)
    have x3_93 := ho92.apartW ha93 (by omega)
    have g_93 := g_92.apartW ha93 (by omega)
    have B_93 := B_92.trans (ha93.below B_92.size (by omega))
    have zz93 : w92.heap.size ≤ w93.heap.size := by have q := ha93.size; first | exact q | simpa using q
    clear ha93 p0a_92 p0b_92 p1a_92 p1b_92 p2a_92 p2b_92 p3a_92 p3b_92 Wa_92 Wb_92 X0a_92 X0b_92 X1a_92 X1b_92 X2a_92 X2b_92 X3a_92 X3b_92 Ga_92 Gb_92 o_92 x0_92 x1_92 x2_92 ho92 x4_92 g_92 B_92
    have kpos : ¬ (1 : Int) + (wtot z0 n0 : Nat) + (wtot z1 n1 : Nat) + (wtot z2 n2 : Nat) + (wtot z3 n3 : Nat) + (tot z4 n4 : Nat) < 0 := by omega
    go_wp2_with fail
    refine (eqTableG _ _ _ _ _ ta pa _ hsA (g_93.atW hsA) (o_93.atW hsA)).mono ?_
    rintro e w94 ⟨rfl, hb94⟩
    have p0a_94 := cell_later hb94 p0a_93
    have p0b_94 := cell_later hb94 p0b_93
    have p1a_94 := cell_later hb94 p1a_93
    have p1b_94 := cell_later hb94 p1b_93
    have p2a_94 := cell_later hb94 p2a_93
    have p2b_94 := cell_later hb94 p2b_93
    have p3a_94 := cell_later hb94 p3a_93
    have p3b_94 := cell_later hb94 p3b_93
    have Wa_94 := cell_later hb94 Wa_93
    have Wb_94 := cell_later hb94 Wb_93
    have X0a_94 := cell_later hb94 X0a_93
    have X0b_94 := cell_later hb94 X0b_93
    have X1a_94 := cell_later hb94 X1a_93
    have X1b_94 := cell_later hb94 X1b_93
    have X2a_94 := cell_later hb94 X2a_93
    have X2b_94 := cell_later hb94 X2b_93
    have X3a_94 := cell_later hb94 X3a_93
    have X3b_94 := cell_later hb94 X3b_93
    have Ga_94 := cell_later hb94 Ga_93
    have Gb_94 := cell_later hb94 Gb_93
    have o_94 := o_93.below hb94
    have x0_94 := x0_93.below hb94
    have x1_94 := x1_93.below hb94
    have x2_94 := x2_93.below hb94
    have x3_94 := x3_93.below hb94
    have x4_94 := ho93.below hb94
    have g_94 := g_93.below hb94
    have B_94 := B_93.trans (hb94.mono B_93.size)
    have zz94 : w93.heap.size ≤ w94.heap.size := by have q := hb94.size; first | exact q | simpa using q
    clear p0a_93 p0b_93 p1a_93 p1b_93 p2a_93 p2b_93 p3a_93 p3b_93 Wa_93 Wb_93 X0a_93 X0b_93 X1a_93 X1b_93 X2a_93 X2b_93 X3a_93 X3b_93 Ga_93 Gb_93 o_93 x0_93 x1_93 x2_93 x3_93 ho93 g_93 B_93
    clear hb94
    clear x0_94
    clear x1_94
    clear x2_94
    clear x3_94
    clear x4_94
    go_wp2_with fail
    refine (markTableG _ _ _ _ _ ta pa _ _ hsA (by omega) (by omega) g_94).mono ?_
    rintro e w95 ⟨rfl, ho95, ha95⟩
    have p0a_95 := ha95.cell p0a_94 (show w.heap.size < w75.heap.size ∨ w76.heap.size ≤ w.heap.size by omega)
    have p0b_95 := ha95.cell p0b_94 (show w.heap.size < w75.heap.size ∨ w76.heap.size ≤ w.heap.size by omega)
    have p1a_95 := ha95.cell p1a_94 (show w.heap.size + 1 < w75.heap.size ∨ w76.heap.size ≤ w.heap.size + 1 by omega)
    have p1b_95 := ha95.cell p1b_94 (show w.heap.size + 1 < w75.heap.size ∨ w76.heap.size ≤ w.heap.size + 1 by omega)
    have p2a_95 := ha95.cell p2a_94 (show w.heap.size + 1 + 1 < w75.heap.size ∨ w76.heap.size ≤ w.heap.size + 1 + 1 by omega)
    have p2b_95 := ha95.cell p2b_94 (show w.heap.size + 1 + 1 < w75.heap.size ∨ w76.heap.size ≤ w.heap.size + 1 + 1 by omega)
    have p3a_95 := ha95.cell p3a_94 (show w.heap.size + 1 + 1 + 1 < w75.heap.size ∨ w76.heap.size ≤ w.heap.size + 1 + 1 + 1 by omega)
    have p3b_95 := ha95.cell p3b_94 (show w.heap.size + 1 + 1 + 1 < w75.heap.size ∨ w76.heap.size ≤ w.heap.size + 1 + 1 + 1 by omega)
    have Wa_95 := ha95.cell Wa_94 (show Pb66 < w75.heap.size ∨ w76.heap.size ≤ Pb66 by omega)
    have Wb_95 := ha95.cell Wb_94 (show Pb66 < w75.heap.size ∨ w76.heap.size ≤ Pb66 by omega)
    have X0a_95 := ha95.cell X0a_94 (show w67.heap.size < w75.heap.size ∨ w76.heap.size ≤ w67.heap.size by omega)
    have X0b_95 := ha95.cell X0b_94 (show w67.heap.size < w75.heap.size ∨ w76.heap.size ≤ w67.heap.size by omega)
    have X1a_95 := ha95.cell X1a_94 (show w69.heap.size < w75.heap.size ∨ w76.heap.size ≤ w69.heap.size by omega)
    have X1b_95 := ha95.cell X1b_94 (show w69.heap.size < w75.heap.size ∨ w76.heap.size ≤ w69.heap.size by omega)
    have X2a_95 := ha95.cell X2a_94 (show w71.heap.size < w75.heap.size ∨ w76.heap.size ≤ w71.heap.size by omega)
    have X2b_95 := ha95.cell X2b_94 (show w71.heap.size < w75.heap.size ∨ w76.heap.size ≤ w71.heap.size by omega)
    have X3a_95 := ha95.cell X3a_94 (show w73.heap.size < w75.heap.size ∨ w76.heap.size ≤ w73.heap.size by omega)
    have X3b_95 := ha95.cell X3b_94 (show w73.heap.size < w75.heap.size ∨ w76.heap.size ≤ w73.heap.size by omega)
    have Ga_95 := ha95.cell Ga_94 (show w76.heap.size < w75.heap.size ∨ w76.heap.size ≤ w76.heap.size by omega)
    have Gb_95 := ha95.cell Gb_94 (show w76.heap.size < w75.heap.size ∨ w76.heap.size ≤ w76.heap.size by omega)
    have o_95 := o_94.apartW ha95 (by omega)
    have B_95 := B_94.trans (ha95.below B_94.size (by omega))
    have zz95 : w94.heap.size ≤ w95.heap.size := by have q := ha95.size; first | exact q | simpa using q
    clear ha95 p0a_94 p0b_94 p1a_94 p1b_94 p2a_94 p2b_94 p3a_94 p3b_94 Wa_94 Wb_94 X0a_94 X0b_94 X1a_94 X1b_94 X2a_94 X2b_94 X3a_94 X3b_94 Ga_94 Gb_94 o_94 g_94 B_94
    have gpos : ¬ (1 : Int) + (wtot ta na : Nat) < 0 := by omega
    go_wp2_with fail
    refine (heldTableG _ _ _ ta pa _ _ hsA (by omega) (by omega) (ho95.atMark hsA)).mono ?_
    rintro e w96 ⟨rfl, hb96⟩
    have p0a_96 := cell_later hb96 p0a_95
    have p0b_96 := cell_later hb96 p0b_95
    have p1a_96 := cell_later hb96 p1a_95
    have p1b_96 := cell_later hb96 p1b_95
    have p2a_96 := cell_later hb96 p2a_95
    have p2b_96 := cell_later hb96 p2b_95
    have p3a_96 := cell_later hb96 p3a_95
    have p3b_96 := cell_later hb96 p3b_95
    have Wa_96 := cell_later hb96 Wa_95
    have Wb_96 := cell_later hb96 Wb_95
    have X0a_96 := cell_later hb96 X0a_95
    have X0b_96 := cell_later hb96 X0b_95
    have X1a_96 := cell_later hb96 X1a_95
    have X1b_96 := cell_later hb96 X1b_95
    have X2a_96 := cell_later hb96 X2a_95
    have X2b_96 := cell_later hb96 X2b_95
    have X3a_96 := cell_later hb96 X3a_95
    have X3b_96 := cell_later hb96 X3b_95
    have Ga_96 := cell_later hb96 Ga_95
    have Gb_96 := cell_later hb96 Gb_95
    have o_96 := o_95.below hb96
    have g_96 := ho95.below hb96
    have B_96 := B_95.trans (hb96.mono B_95.size)
    have zz96 : w95.heap.size ≤ w96.heap.size := by have q := hb96.size; first | exact q | simpa using q
    clear p0a_95 p0b_95 p1a_95 p1b_95 p2a_95 p2b_95 p3a_95 p3b_95 Wa_95 Wb_95 X0a_95 X0b_95 X1a_95 X1b_95 X2a_95 X2b_95 X3a_95 X3b_95 Ga_95 Gb_95 o_95 ho95 B_95
    clear hb96
    go_upto_region 52 with fail
    go_cut [24, 25] (fun ta' tb wx => ∃ (Pb : Nat) (r : Option Addr) (m d lo hi : Nat), ta' = .pointer (some ⟨Pb, 0, none⟩) ∧ tb = .bool ok ∧ wx.cell? ⟨Pb, 0, none⟩ = some (.int .i64 pa) ∧ wx.cell? ⟨Pb, 1, none⟩ = some (.slice r m d) ∧ OwnT wx lo hi r m d ta ∧ w96.heap.size ≤ lo ∧ hi ≤ wx.heap.size ∧ w96.heap.size ≤ Pb ∧ Pb < wx.heap.size ∧ (Pb < lo ∨ hi ≤ Pb) ∧ Below w96.heap.size w96 wx)
    case first =>
      refine wp_region_held_drew (S := fun w' => w'.cell? ⟨w.heap.size, 0, none⟩ = some (.int .i64 p0x) ∧ w'.cell? ⟨w.heap.size, 1, none⟩ = some (.slice a0 n0 c0) ∧ w'.cell? ⟨w.heap.size + 1, 0, none⟩ = some (.int .i64 p1x) ∧ w'.cell? ⟨w.heap.size + 1, 1, none⟩ = some (.slice a1 n1 c1) ∧ w'.cell? ⟨w.heap.size + 1 + 1, 0, none⟩ = some (.int .i64 p2x) ∧ w'.cell? ⟨w.heap.size + 1 + 1, 1, none⟩ = some (.slice a2 n2 c2) ∧ w'.cell? ⟨w.heap.size + 1 + 1 + 1, 0, none⟩ = some (.int .i64 p3x) ∧ w'.cell? ⟨w.heap.size + 1 + 1 + 1, 1, none⟩ = some (.slice a3 n3 c3)) (by kernel_rfl) ?_ (fun hHeld => ?_)
      · (try dsimp only)
        exact ⟨p0a_96, p0b_96, p1a_96, p1b_96, p2a_96, p2b_96, p3a_96, p3b_96⟩
      refine wpAnyH_take (i := 0) (oi := ?_) (v := ?_) ?_ (by kernel_rfl) (by kernel_rfl) (by kernel_rfl) ?_ (Or.inl ⟨?_, ?_⟩) (by assumption) ?_
      rotate_left 2
      · (simp only [List.getElem?_toArray, List.getElem?_cons_zero]; rfl)
      · exact fun _ _ _ h => h
      · rfl
      · (intro wS hSw; (try dsimp only at hSw); go_simp; (try with_reducible rfl))
      (try simp only [Act.put, List.setIfInBounds_toArray, List.set_cons_zero, List.set_cons_succ])
      refine wpAnyH_take (i := 2) (oi := ?_) (v := ?_) ?_ (by kernel_rfl) (by kernel_rfl) (by kernel_rfl) ?_ (Or.inl ⟨?_, ?_⟩) (by assumption) ?_
      rotate_left 2
      · (simp only [List.getElem?_toArray, List.getElem?_cons_zero, List.getElem?_cons_succ]; rfl)
      · exact fun _ _ _ h => h
      · rfl
      · (intro wS hSw; (try dsimp only at hSw); go_simp; (try with_reducible rfl))
      (try simp only [Act.put, List.setIfInBounds_toArray, List.set_cons_zero, List.set_cons_succ])
      refine wpAnyH_take (i := 4) (oi := ?_) (v := ?_) ?_ (by kernel_rfl) (by kernel_rfl) (by kernel_rfl) ?_ (Or.inl ⟨?_, ?_⟩) (by assumption) ?_
      rotate_left 2
      · (simp only [List.getElem?_toArray, List.getElem?_cons_zero, List.getElem?_cons_succ]; rfl)
      · exact fun _ _ _ h => h
      · rfl
      · (intro wS hSw; (try dsimp only at hSw); go_simp; (try with_reducible rfl))
      (try simp only [Act.put, List.setIfInBounds_toArray, List.set_cons_zero, List.set_cons_succ])
      refine wpAnyH_take (i := 6) (oi := ?_) (v := ?_) ?_ (by kernel_rfl) (by kernel_rfl) (by kernel_rfl) ?_ (Or.inl ⟨?_, ?_⟩) (by assumption) ?_
      rotate_left 2
      · (simp only [List.getElem?_toArray, List.getElem?_cons_zero, List.getElem?_cons_succ]; rfl)
      · exact fun _ _ _ h => h
      · rfl
      · (intro wS hSw; (try dsimp only at hSw); go_simp; (try with_reducible rfl))
      (try simp only [Act.put, List.setIfInBounds_toArray, List.set_cons_zero, List.set_cons_succ])
      refine wpAnyH_take (i := 8) (oi := ?_) (v := ?_) ?_ (by kernel_rfl) (by kernel_rfl) (by kernel_rfl) ?_ (Or.inl ⟨?_, ?_⟩) (by assumption) ?_
      rotate_left 2
      · (simp only [List.getElem?_toArray, List.getElem?_cons_zero, List.getElem?_cons_succ]; rfl)
      · exact fun _ _ _ h => h
      · rfl
      · (intro wS hSw; (try dsimp only at hSw); go_simp; (try with_reducible rfl))
      (try simp only [Act.put, List.setIfInBounds_toArray, List.set_cons_zero, List.set_cons_succ])
      obtain ⟨w99, hU99⟩ : ∃ u, u = w96.drew := ⟨_, rfl⟩
      have hb99 : Below w96.heap.size w96 w99 := by rw [hU99]; exact (Below.refl _ _).drew
      rw [← hU99]
      clear hU99
      have p0a_99 := cell_later hb99 p0a_96
      have p0b_99 := cell_later hb99 p0b_96
      have p1a_99 := cell_later hb99 p1a_96
      have p1b_99 := cell_later hb99 p1b_96
      have p2a_99 := cell_later hb99 p2a_96
      have p2b_99 := cell_later hb99 p2b_96
      have p3a_99 := cell_later hb99 p3a_96
      have p3b_99 := cell_later hb99 p3b_96
      have B_99 := B_96.trans (hb99.mono B_96.size)
      have Y_99 : Below w96.heap.size w96 w99 := hb99
      have zz99 : w96.heap.size ≤ w99.heap.size := by have q := hb99.size; first | exact q | simpa using q
      refine wpAnyH_ready (rs := [1, 14]) (by kernel_rfl) (by simp) ?_
      refine AllReadyH.cons (o := ?_) ?_ (fun K hK => ?_) ?_
      rotate_left
      · (simp only [List.getElem?_toArray, List.getElem?_cons_zero, List.getElem?_cons_succ]; rfl)
      · go_simp
        go_at_call 34
        refine (toTableG _ _ _ z0 p0x _ hs0 (ha0.below B_99)).mono ?_
        rintro e w100 ⟨g100, rfl, ho100, hb100⟩
        have p0a_100 := cell_later hb100 p0a_99
        have p0b_100 := cell_later hb100 p0b_99
        have p1a_100 := cell_later hb100 p1a_99
        have p1b_100 := cell_later hb100 p1b_99
        have p2a_100 := cell_later hb100 p2a_99
        have p2b_100 := cell_later hb100 p2b_99
        have p3a_100 := cell_later hb100 p3a_99
        have p3b_100 := cell_later hb100 p3b_99
        have B_100 := B_99.trans (hb100.mono B_99.size)
        have Y_100 : Below w96.heap.size w96 w100 := Y_99.trans (hb100.mono Y_99.size)
        have zz100 : w99.heap.size ≤ w100.heap.size := by have q := hb100.size; first | exact q | simpa using q
        (try go_wp2_with fail)
        refine hK.out _ _ ?_ (fun hHeld' => ?_)
        · (try dsimp only)
          exact ⟨p0a_100, p0b_100, p1a_100, p1b_100, p2a_100, p2b_100, p3a_100, p3b_100⟩
        clear hK K hHeld
        have hHeld := hHeld'
        clear hHeld'
        (try simp only [Act.put, List.setIfInBounds_toArray, List.set_cons_zero, List.set_cons_succ])
        refine wpAnyH_ready (rs := [3, 14]) (by kernel_rfl) (by simp) ?_
        refine AllReadyH.cons (o := ?_) ?_ (fun K hK => ?_) ?_
        rotate_left
        · (simp only [List.getElem?_toArray, List.getElem?_cons_zero, List.getElem?_cons_succ]; rfl)
        · go_simp
          go_at_call 34
          refine (toTableG _ _ _ z1 p1x _ hs1 (ha1.below B_100)).mono ?_
          rintro e w101 ⟨g101, rfl, ho101, hb101⟩
          have p0a_101 := cell_later hb101 p0a_100
          have p0b_101 := cell_later hb101 p0b_100
          have p1a_101 := cell_later hb101 p1a_100
          have p1b_101 := cell_later hb101 p1b_100
          have p2a_101 := cell_later hb101 p2a_100
          have p2b_101 := cell_later hb101 p2b_100
          have p3a_101 := cell_later hb101 p3a_100
          have p3b_101 := cell_later hb101 p3b_100
          have h0_101 := ho100.below hb101
          have B_101 := B_100.trans (hb101.mono B_100.size)
          have Y_101 : Below w96.heap.size w96 w101 := Y_100.trans (hb101.mono Y_100.size)
          have zz101 : w100.heap.size ≤ w101.heap.size := by have q := hb101.size; first | exact q | simpa using q
          (try go_wp2_with fail)
          refine hK.out _ _ ?_ (fun hHeld' => ?_)
          · (try dsimp only)
            exact ⟨p0a_101, p0b_101, p1a_101, p1b_101, p2a_101, p2b_101, p3a_101, p3b_101⟩
          clear hK K hHeld
          have hHeld := hHeld'
          clear hHeld'
          (try simp only [Act.put, List.setIfInBounds_toArray, List.set_cons_zero, List.set_cons_succ])
          refine wpAnyH_ready (rs := [5, 14]) (by kernel_rfl) (by simp) ?_
          refine AllReadyH.cons (o := ?_) ?_ (fun K hK => ?_) ?_
          rotate_left
          · (simp only [List.getElem?_toArray, List.getElem?_cons_zero, List.getElem?_cons_succ]; rfl)
          · go_simp
            go_at_call 34
            refine (toTableG _ _ _ z2 p2x _ hs2 (ha2.below B_101)).mono ?_
            rintro e w102 ⟨g102, rfl, ho102, hb102⟩
            have p0a_102 := cell_later hb102 p0a_101
            have p0b_102 := cell_later hb102 p0b_101
            have p1a_102 := cell_later hb102 p1a_101
            have p1b_102 := cell_later hb102 p1b_101
            have p2a_102 := cell_later hb102 p2a_101
            have p2b_102 := cell_later hb102 p2b_101
            have p3a_102 := cell_later hb102 p3a_101
            have p3b_102 := cell_later hb102 p3b_101
            have h0_102 := h0_101.below hb102
            have h1_102 := ho101.below hb102
            have B_102 := B_101.trans (hb102.mono B_101.size)
            have Y_102 : Below w96.heap.size w96 w102 := Y_101.trans (hb102.mono Y_101.size)
            have zz102 : w101.heap.size ≤ w102.heap.size := by have q := hb102.size; first | exact q | simpa using q
            (try go_wp2_with fail)
            refine hK.out _ _ ?_ (fun hHeld' => ?_)
            · (try dsimp only)
              exact ⟨p0a_102, p0b_102, p1a_102, p1b_102, p2a_102, p2b_102, p3a_102, p3b_102⟩
            clear hK K hHeld
            have hHeld := hHeld'
            clear hHeld'
            (try simp only [Act.put, List.setIfInBounds_toArray, List.set_cons_zero, List.set_cons_succ])
            refine wpAnyH_ready (rs := [7, 14]) (by kernel_rfl) (by simp) ?_
            refine AllReadyH.cons (o := ?_) ?_ (fun K hK => ?_) ?_
            rotate_left
            · (simp only [List.getElem?_toArray, List.getElem?_cons_zero, List.getElem?_cons_succ]; rfl)
            · go_simp
              go_at_call 34
              refine (toTableG _ _ _ z3 p3x _ hs3 (ha3.below B_102)).mono ?_
              rintro e w103 ⟨g103, rfl, ho103, hb103⟩
              have p0a_103 := cell_later hb103 p0a_102
              have p0b_103 := cell_later hb103 p0b_102
              have p1a_103 := cell_later hb103 p1a_102
              have p1b_103 := cell_later hb103 p1b_102
              have p2a_103 := cell_later hb103 p2a_102
              have p2b_103 := cell_later hb103 p2b_102
              have p3a_103 := cell_later hb103 p3a_102
              have p3b_103 := cell_later hb103 p3b_102
              have h0_103 := h0_102.below hb103
              have h1_103 := h1_102.below hb103
              have h2_103 := ho102.below hb103
              have B_103 := B_102.trans (hb103.mono B_102.size)
              have Y_103 : Below w96.heap.size w96 w103 := Y_102.trans (hb103.mono Y_102.size)
              have zz103 : w102.heap.size ≤ w103.heap.size := by have q := hb103.size; first | exact q | simpa using q
              (try go_wp2_with fail)
              refine hK.out _ _ ?_ (fun hHeld' => ?_)
              · (try dsimp only)
                exact ⟨p0a_103, p0b_103, p1a_103, p1b_103, p2a_103, p2b_103, p3a_103, p3b_103⟩
              clear hK K hHeld
              have hHeld := hHeld'
              clear hHeld'
              (try simp only [Act.put, List.setIfInBounds_toArray, List.set_cons_zero, List.set_cons_succ])
              refine wpAnyH_ready (rs := [9, 14]) (by kernel_rfl) (by simp) ?_
              refine AllReadyH.cons (o := ?_) ?_ (fun K hK => ?_) ?_
              rotate_left
              · (simp only [List.getElem?_toArray, List.getElem?_cons_zero, List.getElem?_cons_succ]; rfl)
              · go_simp
                go_at_call 35
                refine (toIntSSG _ _ _ z4 _ hs4 (ha4.below B_103)).mono ?_
                rintro e w104 ⟨g104, rfl, ho104, hb104⟩
                have p0a_104 := cell_later hb104 p0a_103
                have p0b_104 := cell_later hb104 p0b_103
                have p1a_104 := cell_later hb104 p1a_103
                have p1b_104 := cell_later hb104 p1b_103
                have p2a_104 := cell_later hb104 p2a_103
                have p2b_104 := cell_later hb104 p2b_103
                have p3a_104 := cell_later hb104 p3a_103
                have p3b_104 := cell_later hb104 p3b_103
                have h0_104 := h0_103.below hb104
                have h1_104 := h1_103.below hb104
                have h2_104 := h2_103.below hb104
                have h3_104 := ho103.below hb104
                have B_104 := B_103.trans (hb104.mono B_103.size)
                have Y_104 : Below w96.heap.size w96 w104 := Y_103.trans (hb104.mono Y_103.size)
                have zz104 : w103.heap.size ≤ w104.heap.size := by have q := hb104.size; first | exact q | simpa using q
                (try go_wp2_with fail)
                refine hK.out _ _ ?_ (fun hHeld' => ?_)
                · (try dsimp only)
                  exact ⟨p0a_104, p0b_104, p1a_104, p1b_104, p2a_104, p2b_104, p3a_104, p3b_104⟩
                clear hK K hHeld
                have hHeld := hHeld'
                clear hHeld'
                (try simp only [Act.put, List.setIfInBounds_toArray, List.set_cons_zero, List.set_cons_succ])
                refine wpAnyH_ready (rs := [10, 14]) (by kernel_rfl) (by simp) ?_
                refine AllReadyH.cons (o := ?_) ?_ (fun K hK => ?_) ?_
                rotate_left
                · (simp only [List.getElem?_toArray, List.getElem?_cons_zero, List.getElem?_cons_succ]; rfl)
                · go_simp
                  go_at_call 10
                  refine (HI.out _ _ _ _ _ _ _ _ _ _ _ _ _ _ _ _ _ _ _ _ _ h0_104 h1_104 h2_104 h3_104 ho104).mono ?_
                  rintro e w105 ⟨⟨r105, m105, d105, cs105, rfl, ho105⟩, hb105⟩
                  have p0a_105 := cell_later hb105 p0a_104
                  have p0b_105 := cell_later hb105 p0b_104
                  have p1a_105 := cell_later hb105 p1a_104
                  have p1b_105 := cell_later hb105 p1b_104
                  have p2a_105 := cell_later hb105 p2a_104
                  have p2b_105 := cell_later hb105 p2b_104
                  have p3a_105 := cell_later hb105 p3a_104
                  have p3b_105 := cell_later hb105 p3b_104
                  have B_105 := B_104.trans (hb105.mono B_104.size)
                  have Y_105 : Below w96.heap.size w96 w105 := Y_104.trans (hb105.mono Y_104.size)
                  have zz105 : w104.heap.size ≤ w105.heap.size := by have q := hb105.size; first | exact q | simpa using q
                  (try go_wp2_with fail)
                  refine hK.out _ _ ?_ (fun hHeld' => ?_)
                  · (try dsimp only)
                    exact ⟨p0a_105, p0b_105, p1a_105, p1b_105, p2a_105, p2b_105, p3a_105, p3b_105⟩
                  clear hK K hHeld
                  have hHeld := hHeld'
                  clear hHeld'
                  (try simp only [Act.put, List.setIfInBounds_toArray, List.set_cons_zero, List.set_cons_succ])
                  refine wpAnyH_take (i := 11) (oi := ?_) (v := ?_) ?_ (by kernel_rfl) (by kernel_rfl) (by kernel_rfl) ?_ (Or.inl ⟨?_, ?_⟩) (by assumption) ?_
                  rotate_left 2
                  · (simp only [List.getElem?_toArray, List.getElem?_cons_zero, List.getElem?_cons_succ]; rfl)
                  · exact fun _ _ _ h => h
                  · rfl
                  · (intro wS hSw; (try dsimp only at hSw); go_simp; (try with_reducible rfl))
                  (try simp only [Act.put, List.setIfInBounds_toArray, List.set_cons_zero, List.set_cons_succ])
                  refine wpAnyH_take (i := 12) (oi := ?_) (v := ?_) ?_ (by kernel_rfl) (by kernel_rfl) (by kernel_rfl) ?_ (Or.inl ⟨?_, ?_⟩) (by assumption) ?_
                  rotate_left 2
                  · (simp only [List.getElem?_toArray, List.getElem?_cons_zero, List.getElem?_cons_succ]; rfl)
                  · exact fun _ _ _ h => h
                  · rfl
                  · (intro wS hSw; (try dsimp only at hSw); go_simp; (try with_reducible rfl))
                  (try simp only [Act.put, List.setIfInBounds_toArray, List.set_cons_zero, List.set_cons_succ])
                  refine wpAnyH_take (i := 13) (oi := ?_) (v := ?_) ?_ (by kernel_rfl) (by kernel_rfl) (by kernel_rfl) ?_ (Or.inl ⟨?_, ?_⟩) (by assumption) ?_
                  rotate_left 2
                  · (simp only [List.getElem?_toArray, List.getElem?_cons_zero, List.getElem?_cons_succ]; rfl)
                  · exact fun _ _ _ h => h
                  · rfl
                  · (intro wS hSw; (try dsimp only at hSw); go_simp; (try with_reducible rfl))
                  (try simp only [Act.put, List.setIfInBounds_toArray, List.set_cons_zero, List.set_cons_succ])
                  refine wpAnyH_ready (rs := [14]) (by kernel_rfl) (by simp) ?_
                  refine AllReadyH.cons (o := ?_) ?_ (fun K hK => ?_) AllReadyH.nil
                  rotate_left
                  · (simp only [List.getElem?_toArray, List.getElem?_cons_zero, List.getElem?_cons_succ]; rfl)
                  go_simp
                  skip
                  (try go_wp2_with fail)
                  refine hK.out _ _ ?_ (fun hHeld' => ?_)
                  · (try dsimp only)
                    exact ⟨cell_later ((Below.refl _ _).alloc (Nat.le_refl _) _) p0a_105, cell_later ((Below.refl _ _).alloc (Nat.le_refl _) _) p0b_105, cell_later ((Below.refl _ _).alloc (Nat.le_refl _) _) p1a_105, cell_later ((Below.refl _ _).alloc (Nat.le_refl _) _) p1b_105, cell_later ((Below.refl _ _).alloc (Nat.le_refl _) _) p2a_105, cell_later ((Below.refl _ _).alloc (Nat.le_refl _) _) p2b_105, cell_later ((Below.refl _ _).alloc (Nat.le_refl _) _) p3a_105, cell_later ((Below.refl _ _).alloc (Nat.le_refl _) _) p3b_105⟩
                  clear hK K hHeld
                  have hHeld := hHeld'
                  clear hHeld'
                  (try simp only [Act.put, List.setIfInBounds_toArray, List.set_cons_zero, List.set_cons_succ])
                  refine wpAnyH_ready (rs := [15]) (by kernel_rfl) (by simp) ?_
                  refine AllReadyH.cons (o := ?_) ?_ (fun K hK => ?_) AllReadyH.nil
                  rotate_left
                  · (simp only [List.getElem?_toArray, List.getElem?_cons_zero, List.getElem?_cons_succ]; rfl)
                  go_simp
                  skip
                  (try go_wp2_with fail)
                  refine hK.out _ _ ?_ (fun hHeld' => ?_)
                  · (try dsimp only)
                    exact ⟨cell_later ((Below.refl _ _).alloc (Nat.le_refl _) _) p0a_105, cell_later ((Below.refl _ _).alloc (Nat.le_refl _) _) p0b_105, cell_later ((Below.refl _ _).alloc (Nat.le_refl _) _) p1a_105, cell_later ((Below.refl _ _).alloc (Nat.le_refl _) _) p1b_105, cell_later ((Below.refl _ _).alloc (Nat.le_refl _) _) p2a_105, cell_later ((Below.refl _ _).alloc (Nat.le_refl _) _) p2b_105, cell_later ((Below.refl _ _).alloc (Nat.le_refl _) _) p3a_105, cell_later ((Below.refl _ _).alloc (Nat.le_refl _) _) p3b_105⟩
                  clear hK K hHeld
                  have hHeld := hHeld'
                  clear hHeld'
                  (try simp only [Act.put, List.setIfInBounds_toArray, List.set_cons_zero, List.set_cons_succ])
                  refine wpAnyH_take (i := 16) (oi := ?_) (v := ?_) ?_ (by kernel_rfl) (by kernel_rfl) (by kernel_rfl) ?_ (Or.inl ⟨?_, ?_⟩) (by assumption) ?_
                  rotate_left 2
                  · (simp only [List.getElem?_toArray, List.getElem?_cons_zero, List.getElem?_cons_succ]; rfl)
                  · exact fun _ _ _ h => h
                  · rfl
                  · (intro wS hSw; (try dsimp only at hSw); go_simp; (try with_reducible rfl))
                  (try simp only [Act.put, List.setIfInBounds_toArray, List.set_cons_zero, List.set_cons_succ])
                  refine wpAnyH_done (by kernel_rfl) ?_ _
                  (try go_wp2_with fail)
                  go_meet
                  case rel =>
                    have owk : OwnT w105 w104.heap.size w105.heap.size r105 m105 d105 ta := ⟨cs105, ho105⟩
                    exact ⟨w105.heap.size, r105, m105, d105, w104.heap.size, w105.heap.size, rfl, rfl, pair0 w105 _ _ _, pair1 w105 _ _ _, owk.below ((Below.refl _ _).alloc (Nat.le_refl _) _), by omega, by simp, by omega, by simp, .inr (Nat.le_refl _), Y_105.alloc Y_105.size _⟩
                refine AllReadyH.cons (o := ?_) ?_ (fun K hK => ?_) AllReadyH.nil
                rotate_left
                · (simp only [List.getElem?_toArray, List.getElem?_cons_zero, List.getElem?_cons_succ]; rfl)
                · go_simp
                  (try go_wp2_with fail)
                  refine hK.out _ _ ?_ (fun hHeld' => ?_)
                  · (try dsimp only)
                    exact ⟨cell_later ((Below.refl _ _).alloc (Nat.le_refl _) _) p0a_104, cell_later ((Below.refl _ _).alloc (Nat.le_refl _) _) p0b_104, cell_later ((Below.refl _ _).alloc (Nat.le_refl _) _) p1a_104, cell_later ((Below.refl _ _).alloc (Nat.le_refl _) _) p1b_104, cell_later ((Below.refl _ _).alloc (Nat.le_refl _) _) p2a_104, cell_later ((Below.refl _ _).alloc (Nat.le_refl _) _) p2b_104, cell_later ((Below.refl _ _).alloc (Nat.le_refl _) _) p3a_104, cell_later ((Below.refl _ _).alloc (Nat.le_refl _) _) p3b_104⟩
                  clear hK K hHeld
                  have hHeld := hHeld'
                  clear hHeld'
                  (try simp only [Act.put, List.setIfInBounds_toArray, List.set_cons_zero, List.set_cons_succ])
                  obtain ⟨w105, hU105⟩ : ∃ u, u = w104.alloc (.cells #[.int .i64 0, .slice none 0 0] 25) := ⟨_, rfl⟩
                  have hb105 : Below w104.heap.size w104 w105 := by rw [hU105]; exact (Below.refl _ _).alloc (Nat.le_refl _) _
                  have zp105 : w105.heap.size = w104.heap.size + 1 := by rw [hU105]; simp
                  have hp105 : w105.heap[w104.heap.size]? = some (.cells #[.int .i64 0, .slice none 0 0] 25 (0, 0)) := by rw [hU105]; exact heap_alloc_new _ _
                  rw [← hU105]
                  clear hU105
                  have p0a_105 := cell_later hb105 p0a_104
                  have p0b_105 := cell_later hb105 p0b_104
                  have p1a_105 := cell_later hb105 p1a_104
                  have p1b_105 := cell_later hb105 p1b_104
                  have p2a_105 := cell_later hb105 p2a_104
                  have p2b_105 := cell_later hb105 p2b_104
                  have p3a_105 := cell_later hb105 p3a_104
                  have p3b_105 := cell_later hb105 p3b_104
                  have h0_105 := h0_104.below hb105
                  have h1_105 := h1_104.below hb105
                  have h2_105 := h2_104.below hb105
                  have h3_105 := h3_104.below hb105
                  have h4_105 := ho104.below hb105
                  have B_105 := B_104.trans (hb105.mono B_104.size)
                  have Y_105 : Below w96.heap.size w96 w105 := Y_104.trans (hb105.mono Y_104.size)
                  have zz105 : w104.heap.size ≤ w105.heap.size := by have q := hb105.size; first | exact q | simpa using q
                  refine wpAnyH_ready (rs := [10]) (by kernel_rfl) (by simp) ?_
                  refine AllReadyH.cons (o := ?_) ?_ (fun K hK => ?_) AllReadyH.nil
                  rotate_left
                  · (simp only [List.getElem?_toArray, List.getElem?_cons_zero, List.getElem?_cons_succ]; rfl)
                  go_simp
                  go_at_call 10
                  refine (HI.out _ _ _ _ _ _ _ _ _ _ _ _ _ _ _ _ _ _ _ _ _ h0_105 h1_105 h2_105 h3_105 h4_105).mono ?_
                  rintro e w106 ⟨⟨r106, m106, d106, cs106, rfl, ho106⟩, hb106⟩
                  have p0a_106 := cell_later hb106 p0a_105
                  have p0b_106 := cell_later hb106 p0b_105
                  have p1a_106 := cell_later hb106 p1a_105
                  have p1b_106 := cell_later hb106 p1b_105
                  have p2a_106 := cell_later hb106 p2a_105
                  have p2b_106 := cell_later hb106 p2b_105
                  have p3a_106 := cell_later hb106 p3a_105
                  have p3b_106 := cell_later hb106 p3b_105
                  have hq106 := (hb106.block (w104.heap.size) (Array.getElem?_eq_some_iff.1 hp105).1).trans hp105
                  have B_106 := B_105.trans (hb106.mono B_105.size)
                  have Y_106 : Below w96.heap.size w96 w106 := Y_105.trans (hb106.mono Y_105.size)
                  have zz106 : w105.heap.size ≤ w106.heap.size := by have q := hb106.size; first | exact q | simpa using q
                  (try go_wp2_with fail)
                  refine hK.out _ _ ?_ (fun hHeld' => ?_)
                  · (try dsimp only)
                    exact ⟨p0a_106, p0b_106, p1a_106, p1b_106, p2a_106, p2b_106, p3a_106, p3b_106⟩
                  clear hK K hHeld
                  have hHeld := hHeld'
                  clear hHeld'
                  (try simp only [Act.put, List.setIfInBounds_toArray, List.set_cons_zero, List.set_cons_succ])
                  refine wpAnyH_take (i := 11) (oi := ?_) (v := ?_) ?_ (by kernel_rfl) (by kernel_rfl) (by kernel_rfl) ?_ (Or.inl ⟨?_, ?_⟩) (by assumption) ?_
                  rotate_left 2
                  · (simp only [List.getElem?_toArray, List.getElem?_cons_zero, List.getElem?_cons_succ]; rfl)
                  · exact fun _ _ _ h => h
                  · rfl
                  · (intro wS hSw; (try dsimp only at hSw); go_simp; (try with_reducible rfl))
                  (try simp only [Act.put, List.setIfInBounds_toArray, List.set_cons_zero, List.set_cons_succ])
                  refine wpAnyH_take (i := 12) (oi := ?_) (v := ?_) ?_ (by kernel_rfl) (by kernel_rfl) (by kernel_rfl) ?_ (Or.inl ⟨?_, ?_⟩) (by assumption) ?_
                  rotate_left 2
                  · (simp only [List.getElem?_toArray, List.getElem?_cons_zero, List.getElem?_cons_succ]; rfl)
                  · exact fun _ _ _ h => h
                  · rfl
                  · (intro wS hSw; (try dsimp only at hSw); go_simp; (try with_reducible rfl))
                  (try simp only [Act.put, List.setIfInBounds_toArray, List.set_cons_zero, List.set_cons_succ])
                  refine wpAnyH_take (i := 13) (oi := ?_) (v := ?_) ?_ (by kernel_rfl) (by kernel_rfl) (by kernel_rfl) ?_ (Or.inl ⟨?_, ?_⟩) (by assumption) ?_
                  rotate_left 2
                  · (simp only [List.getElem?_toArray, List.getElem?_cons_zero, List.getElem?_cons_succ]; rfl)
                  · exact fun _ _ _ h => h
                  · rfl
                  · (intro wS hSw; (try dsimp only at hSw); go_simp; (try with_reducible rfl))
                  (try simp only [Act.put, List.setIfInBounds_toArray, List.set_cons_zero, List.set_cons_succ])
                  have u0 : w106.cell? ⟨w104.heap.size, 0, none⟩ = some (.int .i64 0) := by rw [cell_of_row _ _ 0 _ _ (0, 0) hq106]; rfl
                  have u1 : w106.cell? ⟨w104.heap.size, 1, none⟩ = some (.slice none 0 0) := by rw [cell_of_row _ _ 1 _ _ (0, 0) hq106]; rfl
                  have v0 : w106.frozen? ⟨w104.heap.size, 0, none⟩ = false := frozen_of_row _ _ 0 _ _ hq106
                  have v1 : w106.frozen? ⟨w104.heap.size, 1, none⟩ = false := frozen_of_row _ _ 1 _ _ hq106
                  refine wpAnyH_ready (rs := [15]) (by kernel_rfl) (by simp) ?_
                  refine AllReadyH.cons (o := ?_) ?_ (fun K hK => ?_) AllReadyH.nil
                  rotate_left
                  · (simp only [List.getElem?_toArray, List.getElem?_cons_zero, List.getElem?_cons_succ]; rfl)
                  go_simp
                  skip
                  (try go_wp2_with fail)
                  refine hK.out _ _ ?_ (fun hHeld' => ?_)
                  · (try dsimp only)
                    exact ⟨keep_far (keep_far p0a_106 (by omega)) (by omega), keep_far (keep_far p0b_106 (by omega)) (by omega), keep_far (keep_far p1a_106 (by omega)) (by omega), keep_far (keep_far p1b_106 (by omega)) (by omega), keep_far (keep_far p2a_106 (by omega)) (by omega), keep_far (keep_far p2b_106 (by omega)) (by omega), keep_far (keep_far p3a_106 (by omega)) (by omega), keep_far (keep_far p3b_106 (by omega)) (by omega)⟩
                  clear hK K hHeld
                  have hHeld := hHeld'
                  clear hHeld'
                  (try simp only [Act.put, List.setIfInBounds_toArray, List.set_cons_zero, List.set_cons_succ])
                  refine wpAnyH_take (i := 16) (oi := ?_) (v := ?_) ?_ (by kernel_rfl) (by kernel_rfl) (by kernel_rfl) ?_ (Or.inl ⟨?_, ?_⟩) (by assumption) ?_
                  rotate_left 2
                  · (simp only [List.getElem?_toArray, List.getElem?_cons_zero, List.getElem?_cons_succ]; rfl)
                  · exact fun _ _ _ h => h
                  · rfl
                  · (intro wS hSw; (try dsimp only at hSw); go_simp; (try with_reducible rfl))
                  (try simp only [Act.put, List.setIfInBounds_toArray, List.set_cons_zero, List.set_cons_succ])
                  refine wpAnyH_done (by kernel_rfl) ?_ _
                  (try go_wp2_with fail)
                  go_meet
                  case rel =>
                    have owk : OwnT w106 w105.heap.size w106.heap.size r106 m106 d106 ta := ⟨cs106, ho106⟩
                    exact ⟨w104.heap.size, r106, m106, d106, w105.heap.size, w106.heap.size, rfl, rfl, set2_0 hq106 _ _, set2_1 hq106 _ _, owk.set2 (.inl (by omega)) _ _, by omega, by simp [World.setCell], by omega, by simp only [World.setCell, Array.size_modify]; omega, .inl (by omega), (Y_106.setCell (by show w96.heap.size ≤ w104.heap.size; omega) _).setCell (by show w96.heap.size ≤ w104.heap.size; omega) _⟩
              refine AllReadyH.cons (o := ?_) ?_ (fun K hK => ?_) AllReadyH.nil
              rotate_left
              · (simp only [List.getElem?_toArray, List.getElem?_cons_zero, List.getElem?_cons_succ]; rfl)
              · go_simp
                (try go_wp2_with fail)
                refine hK.out _ _ ?_ (fun hHeld' => ?_)
                · (try dsimp only)
                  exact ⟨cell_later ((Below.refl _ _).alloc (Nat.le_refl _) _) p0a_103, cell_later ((Below.refl _ _).alloc (Nat.le_refl _) _) p0b_103, cell_later ((Below.refl _ _).alloc (Nat.le_refl _) _) p1a_103, cell_later ((Below.refl _ _).alloc (Nat.le_refl _) _) p1b_103, cell_later ((Below.refl _ _).alloc (Nat.le_refl _) _) p2a_103, cell_later ((Below.refl _ _).alloc (Nat.le_refl _) _) p2b_103, cell_later ((Below.refl _ _).alloc (Nat.le_refl _) _) p3a_103, cell_later ((Below.refl _ _).alloc (Nat.le_refl _) _) p3b_103⟩
                clear hK K hHeld
                have hHeld := hHeld'
                clear hHeld'
                (try simp only [Act.put, List.setIfInBounds_toArray, List.set_cons_zero, List.set_cons_succ])
                obtain ⟨w104, hU104⟩ : ∃ u, u = w103.alloc (.cells #[.int .i64 0, .slice none 0 0] 25) := ⟨_, rfl⟩
                have hb104 : Below w103.heap.size w103 w104 := by rw [hU104]; exact (Below.refl _ _).alloc (Nat.le_refl _) _
                have zp104 : w104.heap.size = w103.heap.size + 1 := by rw [hU104]; simp
                have hp104 : w104.heap[w103.heap.size]? = some (.cells #[.int .i64 0, .slice none 0 0] 25 (0, 0)) := by rw [hU104]; exact heap_alloc_new _ _
                rw [← hU104]
                clear hU104
                have p0a_104 := cell_later hb104 p0a_103
                have p0b_104 := cell_later hb104 p0b_103
                have p1a_104 := cell_later hb104 p1a_103
                have p1b_104 := cell_later hb104 p1b_103
                have p2a_104 := cell_later hb104 p2a_103
                have p2b_104 := cell_later hb104 p2b_103
                have p3a_104 := cell_later hb104 p3a_103
                have p3b_104 := cell_later hb104 p3b_103
                have h0_104 := h0_103.below hb104
                have h1_104 := h1_103.below hb104
                have h2_104 := h2_103.below hb104
                have h3_104 := ho103.below hb104
                have B_104 := B_103.trans (hb104.mono B_103.size)
                have Y_104 : Below w96.heap.size w96 w104 := Y_103.trans (hb104.mono Y_103.size)
                have zz104 : w103.heap.size ≤ w104.heap.size := by have q := hb104.size; first | exact q | simpa using q
                refine wpAnyH_ready (rs := [9]) (by kernel_rfl) (by simp) ?_
                refine AllReadyH.cons (o := ?_) ?_ (fun K hK => ?_) AllReadyH.nil
                rotate_left
                · (simp only [List.getElem?_toArray, List.getElem?_cons_zero, List.getElem?_cons_succ]; rfl)
                go_simp
                go_at_call 35
                refine (toIntSSG _ _ _ z4 _ hs4 (ha4.below B_104)).mono ?_
                rintro e w105 ⟨g105, rfl, ho105, hb105⟩
                have p0a_105 := cell_later hb105 p0a_104
                have p0b_105 := cell_later hb105 p0b_104
                have p1a_105 := cell_later hb105 p1a_104
                have p1b_105 := cell_later hb105 p1b_104
                have p2a_105 := cell_later hb105 p2a_104
                have p2b_105 := cell_later hb105 p2b_104
                have p3a_105 := cell_later hb105 p3a_104
                have p3b_105 := cell_later hb105 p3b_104
                have h0_105 := h0_104.below hb105
                have h1_105 := h1_104.below hb105
                have h2_105 := h2_104.below hb105
                have h3_105 := h3_104.below hb105
                have hq105 := (hb105.block (w103.heap.size) (Array.getElem?_eq_some_iff.1 hp104).1).trans hp104
                have B_105 := B_104.trans (hb105.mono B_104.size)
                have Y_105 : Below w96.heap.size w96 w105 := Y_104.trans (hb105.mono Y_104.size)
                have zz105 : w104.heap.size ≤ w105.heap.size := by have q := hb105.size; first | exact q | simpa using q
                (try go_wp2_with fail)
                refine hK.out _ _ ?_ (fun hHeld' => ?_)
                · (try dsimp only)
                  exact ⟨p0a_105, p0b_105, p1a_105, p1b_105, p2a_105, p2b_105, p3a_105, p3b_105⟩
                clear hK K hHeld
                have hHeld := hHeld'
                clear hHeld'
                (try simp only [Act.put, List.setIfInBounds_toArray, List.set_cons_zero, List.set_cons_succ])
                refine wpAnyH_ready (rs := [10]) (by kernel_rfl) (by simp) ?_
                refine AllReadyH.cons (o := ?_) ?_ (fun K hK => ?_) AllReadyH.nil
                rotate_left
                · (simp only [List.getElem?_toArray, List.getElem?_cons_zero, List.getElem?_cons_succ]; rfl)
                go_simp
                go_at_call 10
                refine (HI.out _ _ _ _ _ _ _ _ _ _ _ _ _ _ _ _ _ _ _ _ _ h0_105 h1_105 h2_105 h3_105 ho105).mono ?_
                rintro e w106 ⟨⟨r106, m106, d106, cs106, rfl, ho106⟩, hb106⟩
                have p0a_106 := cell_later hb106 p0a_105
                have p0b_106 := cell_later hb106 p0b_105
                have p1a_106 := cell_later hb106 p1a_105
                have p1b_106 := cell_later hb106 p1b_105
                have p2a_106 := cell_later hb106 p2a_105
                have p2b_106 := cell_later hb106 p2b_105
                have p3a_106 := cell_later hb106 p3a_105
                have p3b_106 := cell_later hb106 p3b_105
                have hq106 := (hb106.block (w103.heap.size) (Array.getElem?_eq_some_iff.1 hq105).1).trans hq105
                have B_106 := B_105.trans (hb106.mono B_105.size)
                have Y_106 : Below w96.heap.size w96 w106 := Y_105.trans (hb106.mono Y_105.size)
                have zz106 : w105.heap.size ≤ w106.heap.size := by have q := hb106.size; first | exact q | simpa using q
                (try go_wp2_with fail)
                refine hK.out _ _ ?_ (fun hHeld' => ?_)
                · (try dsimp only)
                  exact ⟨p0a_106, p0b_106, p1a_106, p1b_106, p2a_106, p2b_106, p3a_106, p3b_106⟩
                clear hK K hHeld
                have hHeld := hHeld'
                clear hHeld'
                (try simp only [Act.put, List.setIfInBounds_toArray, List.set_cons_zero, List.set_cons_succ])
                refine wpAnyH_take (i := 11) (oi := ?_) (v := ?_) ?_ (by kernel_rfl) (by kernel_rfl) (by kernel_rfl) ?_ (Or.inl ⟨?_, ?_⟩) (by assumption) ?_
                rotate_left 2
                · (simp only [List.getElem?_toArray, List.getElem?_cons_zero, List.getElem?_cons_succ]; rfl)
                · exact fun _ _ _ h => h
                · rfl
                · (intro wS hSw; (try dsimp only at hSw); go_simp; (try with_reducible rfl))
                (try simp only [Act.put, List.setIfInBounds_toArray, List.set_cons_zero, List.set_cons_succ])
                refine wpAnyH_take (i := 12) (oi := ?_) (v := ?_) ?_ (by kernel_rfl) (by kernel_rfl) (by kernel_rfl) ?_ (Or.inl ⟨?_, ?_⟩) (by assumption) ?_
                rotate_left 2
                · (simp only [List.getElem?_toArray, List.getElem?_cons_zero, List.getElem?_cons_succ]; rfl)
                · exact fun _ _ _ h => h
                · rfl
                · (intro wS hSw; (try dsimp only at hSw); go_simp; (try with_reducible rfl))
                (try simp only [Act.put, List.setIfInBounds_toArray, List.set_cons_zero, List.set_cons_succ])
                refine wpAnyH_take (i := 13) (oi := ?_) (v := ?_) ?_ (by kernel_rfl) (by kernel_rfl) (by kernel_rfl) ?_ (Or.inl ⟨?_, ?_⟩) (by assumption) ?_
                rotate_left 2
                · (simp only [List.getElem?_toArray, List.getElem?_cons_zero, List.getElem?_cons_succ]; rfl)
                · exact fun _ _ _ h => h
                · rfl
                · (intro wS hSw; (try dsimp only at hSw); go_simp; (try with_reducible rfl))
                (try simp only [Act.put, List.setIfInBounds_toArray, List.set_cons_zero, List.set_cons_succ])
                have u0 : w106.cell? ⟨w103.heap.size, 0, none⟩ = some (.int .i64 0) := by rw [cell_of_row _ _ 0 _ _ (0, 0) hq106]; rfl
                have u1 : w106.cell? ⟨w103.heap.size, 1, none⟩ = some (.slice none 0 0) := by rw [cell_of_row _ _ 1 _ _ (0, 0) hq106]; rfl
                have v0 : w106.frozen? ⟨w103.heap.size, 0, none⟩ = false := frozen_of_row _ _ 0 _ _ hq106
                have v1 : w106.frozen? ⟨w103.heap.size, 1, none⟩ = false := frozen_of_row _ _ 1 _ _ hq106
                refine wpAnyH_ready (rs := [15]) (by kernel_rfl) (by simp) ?_
                refine AllReadyH.cons (o := ?_) ?_ (fun K hK => ?_) AllReadyH.nil
                rotate_left
                · (simp only [List.getElem?_toArray, List.getElem?_cons_zero, List.getElem?_cons_succ]; rfl)
                go_simp
                skip
                (try go_wp2_with fail)
                refine hK.out _ _ ?_ (fun hHeld' => ?_)
                · (try dsimp only)
                  exact ⟨keep_far (keep_far p0a_106 (by omega)) (by omega), keep_far (keep_far p0b_106 (by omega)) (by omega), keep_far (keep_far p1a_106 (by omega)) (by omega), keep_far (keep_far p1b_106 (by omega)) (by omega), keep_far (keep_far p2a_106 (by omega)) (by omega), keep_far (keep_far p2b_106 (by omega)) (by omega), keep_far (keep_far p3a_106 (by omega)) (by omega), keep_far (keep_far p3b_106 (by omega)) (by omega)⟩
                clear hK K hHeld
                have hHeld := hHeld'
                clear hHeld'
                (try simp only [Act.put, List.setIfInBounds_toArray, List.set_cons_zero, List.set_cons_succ])
                refine wpAnyH_take (i := 16) (oi := ?_) (v := ?_) ?_ (by kernel_rfl) (by kernel_rfl) (by kernel_rfl) ?_ (Or.inl ⟨?_, ?_⟩) (by assumption) ?_
                rotate_left 2
                · (simp only [List.getElem?_toArray, List.getElem?_cons_zero, List.getElem?_cons_succ]; rfl)
                · exact fun _ _ _ h => h
                · rfl
                · (intro wS hSw; (try dsimp only at hSw); go_simp; (try with_reducible rfl))
                (try simp only [Act.put, List.setIfInBounds_toArray, List.set_cons_zero, List.set_cons_succ])
                refine wpAnyH_done (by kernel_rfl) ?_ _
                (try go_wp2_with fail)
                go_meet
                case rel =>
                  have owk : OwnT w106 w105.heap.size w106.heap.size r106 m106 d106 ta := ⟨cs106, ho106⟩
                  exact ⟨w103.heap.size, r106, m106, d106, w105.heap.size, w106.heap.size, rfl, rfl, set2_0 hq106 _ _, set2_1 hq106 _ _, owk.set2 (.inl (by omega)) _ _, by omega, by simp [World.setCell], by omega, by simp only [World.setCell, Array.size_modify]; omega, .inl (by omega), (Y_106.setCell (by show w96.heap.size ≤ w103.heap.size; omega) _).setCell (by show w96.heap.size ≤ w103.heap.size; omega) _⟩
            refine AllReadyH.cons (o := ?_) ?_ (fun K hK => ?_) AllReadyH.nil
            rotate_left
            · (simp only [List.getElem?_toArray, List.getElem?_cons_zero, List.getElem?_cons_succ]; rfl)
            · go_simp
              (try go_wp2_with fail)
              refine hK.out _ _ ?_ (fun hHeld' => ?_)
              · (try dsimp only)
                exact ⟨cell_later ((Below.refl _ _).alloc (Nat.le_refl _) _) p0a_102, cell_later ((Below.refl _ _).alloc (Nat.le_refl _) _) p0b_102, cell_later ((Below.refl _ _).alloc (Nat.le_refl _) _) p1a_102, cell_later ((Below.refl _ _).alloc (Nat.le_refl _) _) p1b_102, cell_later ((Below.refl _ _).alloc (Nat.le_refl _) _) p2a_102, cell_later ((Below.refl _ _).alloc (Nat.le_refl _) _) p2b_102, cell_later ((Below.refl _ _).alloc (Nat.le_refl _) _) p3a_102, cell_later ((Below.refl _ _).alloc (Nat.le_refl _) _) p3b_102⟩
              clear hK K hHeld
              have hHeld := hHeld'
              clear hHeld'
              (try simp only [Act.put, List.setIfInBounds_toArray, List.set_cons_zero, List.set_cons_succ])
              obtain ⟨w103, hU103⟩ : ∃ u, u = w102.alloc (.cells #[.int .i64 0, .slice none 0 0] 25) := ⟨_, rfl⟩
              have hb103 : Below w102.heap.size w102 w103 := by rw [hU103]; exact (Below.refl _ _).alloc (Nat.le_refl _) _
              have zp103 : w103.heap.size = w102.heap.size + 1 := by rw [hU103]; simp
              have hp103 : w103.heap[w102.heap.size]? = some (.cells #[.int .i64 0, .slice none 0 0] 25 (0, 0)) := by rw [hU103]; exact heap_alloc_new _ _
              rw [← hU103]
              clear hU103
              have p0a_103 := cell_later hb103 p0a_102
              have p0b_103 := cell_later hb103 p0b_102
              have p1a_103 := cell_later hb103 p1a_102
              have p1b_103 := cell_later hb103 p1b_102
              have p2a_103 := cell_later hb103 p2a_102
              have p2b_103 := cell_later hb103 p2b_102
              have p3a_103 := cell_later hb103 p3a_102
              have p3b_103 := cell_later hb103 p3b_102
              have h0_103 := h0_102.below hb103
              have h1_103 := h1_102.below hb103
              have h2_103 := ho102.below hb103
              have B_103 := B_102.trans (hb103.mono B_102.size)
              have Y_103 : Below w96.heap.size w96 w103 := Y_102.trans (hb103.mono Y_102.size)
              have zz103 : w102.heap.size ≤ w103.heap.size := by have q := hb103.size; first | exact q | simpa using q
              refine wpAnyH_ready (rs := [7]) (by kernel_rfl) (by simp) ?_
              refine AllReadyH.cons (o := ?_) ?_ (fun K hK => ?_) AllReadyH.nil
              rotate_left
              · (simp only [List.getElem?_toArray, List.getElem?_cons_zero, List.getElem?_cons_succ]; rfl)
              go_simp
              go_at_call 34
              refine (toTableG _ _ _ z3 p3x _ hs3 (ha3.below B_103)).mono ?_
              rintro e w104 ⟨g104, rfl, ho104, hb104⟩
              have p0a_104 := cell_later hb104 p0a_103
              have p0b_104 := cell_later hb104 p0b_103
              have p1a_104 := cell_later hb104 p1a_103
              have p1b_104 := cell_later hb104 p1b_103
              have p2a_104 := cell_later hb104 p2a_103
              have p2b_104 := cell_later hb104 p2b_103
              have p3a_104 := cell_later hb104 p3a_103
              have p3b_104 := cell_later hb104 p3b_103
              have h0_104 := h0_103.below hb104
              have h1_104 := h1_103.below hb104
              have h2_104 := h2_103.below hb104
              have hq104 := (hb104.block (w102.heap.size) (Array.getElem?_eq_some_iff.1 hp103).1).trans hp103
              have B_104 := B_103.trans (hb104.mono B_103.size)
              have Y_104 : Below w96.heap.size w96 w104 := Y_103.trans (hb104.mono Y_103.size)
              have zz104 : w103.heap.size ≤ w104.heap.size := by have q := hb104.size; first | exact q | simpa using q
              (try go_wp2_with fail)
              refine hK.out _ _ ?_ (fun hHeld' => ?_)
              · (try dsimp only)
                exact ⟨p0a_104, p0b_104, p1a_104, p1b_104, p2a_104, p2b_104, p3a_104, p3b_104⟩
              clear hK K hHeld
              have hHeld := hHeld'
              clear hHeld'
              (try simp only [Act.put, List.setIfInBounds_toArray, List.set_cons_zero, List.set_cons_succ])
              refine wpAnyH_ready (rs := [9]) (by kernel_rfl) (by simp) ?_
              refine AllReadyH.cons (o := ?_) ?_ (fun K hK => ?_) AllReadyH.nil
              rotate_left
              · (simp only [List.getElem?_toArray, List.getElem?_cons_zero, List.getElem?_cons_succ]; rfl)
              go_simp
              go_at_call 35
              refine (toIntSSG _ _ _ z4 _ hs4 (ha4.below B_104)).mono ?_
              rintro e w105 ⟨g105, rfl, ho105, hb105⟩
              have p0a_105 := cell_later hb105 p0a_104
              have p0b_105 := cell_later hb105 p0b_104
              have p1a_105 := cell_later hb105 p1a_104
              have p1b_105 := cell_later hb105 p1b_104
              have p2a_105 := cell_later hb105 p2a_104
              have p2b_105 := cell_later hb105 p2b_104
              have p3a_105 := cell_later hb105 p3a_104
              have p3b_105 := cell_later hb105 p3b_104
              have h0_105 := h0_104.below hb105
              have h1_105 := h1_104.below hb105
              have h2_105 := h2_104.below hb105
              have h3_105 := ho104.below hb105
              have hq105 := (hb105.block (w102.heap.size) (Array.getElem?_eq_some_iff.1 hq104).1).trans hq104
              have B_105 := B_104.trans (hb105.mono B_104.size)
              have Y_105 : Below w96.heap.size w96 w105 := Y_104.trans (hb105.mono Y_104.size)
              have zz105 : w104.heap.size ≤ w105.heap.size := by have q := hb105.size; first | exact q | simpa using q
              (try go_wp2_with fail)
              refine hK.out _ _ ?_ (fun hHeld' => ?_)
              · (try dsimp only)
                exact ⟨p0a_105, p0b_105, p1a_105, p1b_105, p2a_105, p2b_105, p3a_105, p3b_105⟩
              clear hK K hHeld
              have hHeld := hHeld'
              clear hHeld'
              (try simp only [Act.put, List.setIfInBounds_toArray, List.set_cons_zero, List.set_cons_succ])
              refine wpAnyH_ready (rs := [10]) (by kernel_rfl) (by simp) ?_
              refine AllReadyH.cons (o := ?_) ?_ (fun K hK => ?_) AllReadyH.nil
              rotate_left
              · (simp only [List.getElem?_toArray, List.getElem?_cons_zero, List.getElem?_cons_succ]; rfl)
              go_simp
              go_at_call 10
              refine (HI.out _ _ _ _ _ _ _ _ _ _ _ _ _ _ _ _ _ _ _ _ _ h0_105 h1_105 h2_105 h3_105 ho105).mono ?_
              rintro e w106 ⟨⟨r106, m106, d106, cs106, rfl, ho106⟩, hb106⟩
              have p0a_106 := cell_later hb106 p0a_105
              have p0b_106 := cell_later hb106 p0b_105
              have p1a_106 := cell_later hb106 p1a_105
              have p1b_106 := cell_later hb106 p1b_105
              have p2a_106 := cell_later hb106 p2a_105
              have p2b_106 := cell_later hb106 p2b_105
              have p3a_106 := cell_later hb106 p3a_105
              have p3b_106 := cell_later hb106 p3b_105
              have hq106 := (hb106.block (w102.heap.size) (Array.getElem?_eq_some_iff.1 hq105).1).trans hq105
              have B_106 := B_105.trans (hb106.mono B_105.size)
              have Y_106 : Below w96.heap.size w96 w106 := Y_105.trans (hb106.mono Y_105.size)
              have zz106 : w105.heap.size ≤ w106.heap.size := by have q := hb106.size; first | exact q | simpa using q
              (try go_wp2_with fail)
              refine hK.out _ _ ?_ (fun hHeld' => ?_)
              · (try dsimp only)
                exact ⟨p0a_106, p0b_106, p1a_106, p1b_106, p2a_106, p2b_106, p3a_106, p3b_106⟩
              clear hK K hHeld
              have hHeld := hHeld'
              clear hHeld'
              (try simp only [Act.put, List.setIfInBounds_toArray, List.set_cons_zero, List.set_cons_succ])
              refine wpAnyH_take (i := 11) (oi := ?_) (v := ?_) ?_ (by kernel_rfl) (by kernel_rfl) (by kernel_rfl) ?_ (Or.inl ⟨?_, ?_⟩) (by assumption) ?_
              rotate_left 2
              · (simp only [List.getElem?_toArray, List.getElem?_cons_zero, List.getElem?_cons_succ]; rfl)
              · exact fun _ _ _ h => h
              · rfl
              · (intro wS hSw; (try dsimp only at hSw); go_simp; (try with_reducible rfl))
              (try simp only [Act.put, List.setIfInBounds_toArray, List.set_cons_zero, List.set_cons_succ])
              refine wpAnyH_take (i := 12) (oi := ?_) (v := ?_) ?_ (by kernel_rfl) (by kernel_rfl) (by kernel_rfl) ?_ (Or.inl ⟨?_, ?_⟩) (by assumption) ?_
              rotate_left 2
              · (simp only [List.getElem?_toArray, List.getElem?_cons_zero, List.getElem?_cons_succ]; rfl)
              · exact fun _ _ _ h => h
              · rfl
              · (intro wS hSw; (try dsimp only at hSw); go_simp; (try with_reducible rfl))
              (try simp only [Act.put, List.setIfInBounds_toArray, List.set_cons_zero, List.set_cons_succ])
              refine wpAnyH_take (i := 13) (oi := ?_) (v := ?_) ?_ (by kernel_rfl) (by kernel_rfl) (by kernel_rfl) ?_ (Or.inl ⟨?_, ?_⟩) (by assumption) ?_
              rotate_left 2
              · (simp only [List.getElem?_toArray, List.getElem?_cons_zero, List.getElem?_cons_succ]; rfl)
              · exact fun _ _ _ h => h
              · rfl
              · (intro wS hSw; (try dsimp only at hSw); go_simp; (try with_reducible rfl))
              (try simp only [Act.put, List.setIfInBounds_toArray, List.set_cons_zero, List.set_cons_succ])
              have u0 : w106.cell? ⟨w102.heap.size, 0, none⟩ = some (.int .i64 0) := by rw [cell_of_row _ _ 0 _ _ (0, 0) hq106]; rfl
              have u1 : w106.cell? ⟨w102.heap.size, 1, none⟩ = some (.slice none 0 0) := by rw [cell_of_row _ _ 1 _ _ (0, 0) hq106]; rfl
              have v0 : w106.frozen? ⟨w102.heap.size, 0, none⟩ = false := frozen_of_row _ _ 0 _ _ hq106
              have v1 : w106.frozen? ⟨w102.heap.size, 1, none⟩ = false := frozen_of_row _ _ 1 _ _ hq106
              refine wpAnyH_ready (rs := [15]) (by kernel_rfl) (by simp) ?_
              refine AllReadyH.cons (o := ?_) ?_ (fun K hK => ?_) AllReadyH.nil
              rotate_left
              · (simp only [List.getElem?_toArray, List.getElem?_cons_zero, List.getElem?_cons_succ]; rfl)
              go_simp
              skip
              (try go_wp2_with fail)
              refine hK.out _ _ ?_ (fun hHeld' => ?_)
              · (try dsimp only)
                exact ⟨keep_far (keep_far p0a_106 (by omega)) (by omega), keep_far (keep_far p0b_106 (by omega)) (by omega), keep_far (keep_far p1a_106 (by omega)) (by omega), keep_far (keep_far p1b_106 (by omega)) (by omega), keep_far (keep_far p2a_106 (by omega)) (by omega), keep_far (keep_far p2b_106 (by omega)) (by omega), keep_far (keep_far p3a_106 (by omega)) (by omega), keep_far (keep_far p3b_106 (by omega)) (by omega)⟩
              clear hK K hHeld
              have hHeld := hHeld'
              clear hHeld'
              (try simp only [Act.put, List.setIfInBounds_toArray, List.set_cons_zero, List.set_cons_succ])
              refine wpAnyH_take (i := 16) (oi := ?_) (v := ?_) ?_ (by kernel_rfl) (by kernel_rfl) (by kernel_rfl) ?_ (Or.inl ⟨?_, ?_⟩) (by assumption) ?_
              rotate_left 2
              · (simp only [List.getElem?_toArray, List.getElem?_cons_zero, List.getElem?_cons_succ]; rfl)
              · exact fun _ _ _ h => h
              · rfl
              · (intro wS hSw; (try dsimp only at hSw); go_simp; (try with_reducible rfl))
              (try simp only [Act.put, List.setIfInBounds_toArray, List.set_cons_zero, List.set_cons_succ])
              refine wpAnyH_done (by kernel_rfl) ?_ _
              (try go_wp2_with fail)
              go_meet
              case rel =>
                have owk : OwnT w106 w105.heap.size w106.heap.size r106 m106 d106 ta := ⟨cs106, ho106⟩
                exact ⟨w102.heap.size, r106, m106, d106, w105.heap.size, w106.heap.size, rfl, rfl, set2_0 hq106 _ _, set2_1 hq106 _ _, owk.set2 (.inl (by omega)) _ _, by omega, by simp [World.setCell], by omega, by simp only [World.setCell, Array.size_modify]; omega, .inl (by omega), (Y_106.setCell (by show w96.heap.size ≤ w102.heap.size; omega) _).setCell (by show w96.heap.size ≤ w102.heap.size; omega) _⟩
          refine AllReadyH.cons (o := ?_) ?_ (fun K hK => ?_) AllReadyH.nil
          rotate_left
          · (simp only [List.getElem?_toArray, List.getElem?_cons_zero, List.getElem?_cons_succ]; rfl)
          · go_simp
            (try go_wp2_with fail)
            refine hK.out _ _ ?_ (fun hHeld' => ?_)
            · (try dsimp only)
              exact ⟨cell_later ((Below.refl _ _).alloc (Nat.le_refl _) _) p0a_101, cell_later ((Below.refl _ _).alloc (Nat.le_refl _) _) p0b_101, cell_later ((Below.refl _ _).alloc (Nat.le_refl _) _) p1a_101, cell_later ((Below.refl _ _).alloc (Nat.le_refl _) _) p1b_101, cell_later ((Below.refl _ _).alloc (Nat.le_refl _) _) p2a_101, cell_later ((Below.refl _ _).alloc (Nat.le_refl _) _) p2b_101, cell_later ((Below.refl _ _).alloc (Nat.le_refl _) _) p3a_101, cell_later ((Below.refl _ _).alloc (Nat.le_refl _) _) p3b_101⟩
            clear hK K hHeld
            have hHeld := hHeld'
            clear hHeld'
            (try simp only [Act.put, List.setIfInBounds_toArray, List.set_cons_zero, List.set_cons_succ])
            obtain ⟨w102, hU102⟩ : ∃ u, u = w101.alloc (.cells #[.int .i64 0, .slice none 0 0] 25) := ⟨_, rfl⟩
            have hb102 : Below w101.heap.size w101 w102 := by rw [hU102]; exact (Below.refl _ _).alloc (Nat.le_refl _) _
            have zp102 : w102.heap.size = w101.heap.size + 1 := by rw [hU102]; simp
            have hp102 : w102.heap[w101.heap.size]? = some (.cells #[.int .i64 0, .slice none 0 0] 25 (0, 0)) := by rw [hU102]; exact heap_alloc_new _ _
            rw [← hU102]
            clear hU102
            have p0a_102 := cell_later hb102 p0a_101
            have p0b_102 := cell_later hb102 p0b_101
            have p1a_102 := cell_later hb102 p1a_101
            have p1b_102 := cell_later hb102 p1b_101
            have p2a_102 := cell_later hb102 p2a_101
            have p2b_102 := cell_later hb102 p2b_101
            have p3a_102 := cell_later hb102 p3a_101
            have p3b_102 := cell_later hb102 p3b_101
            have h0_102 := h0_101.below hb102
            have h1_102 := ho101.below hb102
            have B_102 := B_101.trans (hb102.mono B_101.size)
            have Y_102 : Below w96.heap.size w96 w102 := Y_101.trans (hb102.mono Y_101.size)
            have zz102 : w101.heap.size ≤ w102.heap.size := by have q := hb102.size; first | exact q | simpa using q
            refine wpAnyH_ready (rs := [5]) (by kernel_rfl) (by simp) ?_
            refine AllReadyH.cons (o := ?_) ?_ (fun K hK => ?_) AllReadyH.nil
            rotate_left
            · (simp only [List.getElem?_toArray, List.getElem?_cons_zero, List.getElem?_cons_succ]; rfl)
            go_simp
            go_at_call 34
            refine (toTableG _ _ _ z2 p2x _ hs2 (ha2.below B_102)).mono ?_
            rintro e w103 ⟨g103, rfl, ho103, hb103⟩
            have p0a_103 := cell_later hb103 p0a_102
            have p0b_103 := cell_later hb103 p0b_102
            have p1a_103 := cell_later hb103 p1a_102
            have p1b_103 := cell_later hb103 p1b_102
            have p2a_103 := cell_later hb103 p2a_102
            have p2b_103 := cell_later hb103 p2b_102
            have p3a_103 := cell_later hb103 p3a_102
            have p3b_103 := cell_later hb103 p3b_102
            have h0_103 := h0_102.below hb103
            have h1_103 := h1_102.below hb103
            have hq103 := (hb103.block (w101.heap.size) (Array.getElem?_eq_some_iff.1 hp102).1).trans hp102
            have B_103 := B_102.trans (hb103.mono B_102.size)
            have Y_103 : Below w96.heap.size w96 w103 := Y_102.trans (hb103.mono Y_102.size)
            have zz103 : w102.heap.size ≤ w103.heap.size := by have q := hb103.size; first | exact q | simpa using q
            (try go_wp2_with fail)
            refine hK.out _ _ ?_ (fun hHeld' => ?_)
            · (try dsimp only)
              exact ⟨p0a_103, p0b_103, p1a_103, p1b_103, p2a_103, p2b_103, p3a_103, p3b_103⟩
            clear hK K hHeld
            have hHeld := hHeld'
            clear hHeld'
            (try simp only [Act.put, List.setIfInBounds_toArray, List.set_cons_zero, List.set_cons_succ])
            refine wpAnyH_ready (rs := [7]) (by kernel_rfl) (by simp) ?_
            refine AllReadyH.cons (o := ?_) ?_ (fun K hK => ?_) AllReadyH.nil
            rotate_left
            · (simp only [List.getElem?_toArray, List.getElem?_cons_zero, List.getElem?_cons_succ]; rfl)
            go_simp
            go_at_call 34
            refine (toTableG _ _ _ z3 p3x _ hs3 (ha3.below B_103)).mono ?_
            rintro e w104 ⟨g104, rfl, ho104, hb104⟩
            have p0a_104 := cell_later hb104 p0a_103
            have p0b_104 := cell_later hb104 p0b_103
            have p1a_104 := cell_later hb104 p1a_103
            have p1b_104 := cell_later hb104 p1b_103
            have p2a_104 := cell_later hb104 p2a_103
            have p2b_104 := cell_later hb104 p2b_103
            have p3a_104 := cell_later hb104 p3a_103
            have p3b_104 := cell_later hb104 p3b_103
            have h0_104 := h0_103.below hb104
            have h1_104 := h1_103.below hb104
            have h2_104 := ho103.below hb104
            have hq104 := (hb104.block (w101.heap.size) (Array.getElem?_eq_some_iff.1 hq103).1).trans hq103
            have B_104 := B_103.trans (hb104.mono B_103.size)
            have Y_104 : Below w96.heap.size w96 w104 := Y_103.trans (hb104.mono Y_103.size)
            have zz104 : w103.heap.size ≤ w104.heap.size := by have q := hb104.size; first | exact q | simpa using q
            (try go_wp2_with fail)
            refine hK.out _ _ ?_ (fun hHeld' => ?_)
            · (try dsimp only)
              exact ⟨p0a_104, p0b_104, p1a_104, p1b_104, p2a_104, p2b_104, p3a_104, p3b_104⟩
            clear hK K hHeld
            have hHeld := hHeld'
            clear hHeld'
            (try simp only [Act.put, List.setIfInBounds_toArray, List.set_cons_zero, List.set_cons_succ])
            refine wpAnyH_ready (rs := [9]) (by kernel_rfl) (by simp) ?_
            refine AllReadyH.cons (o := ?_) ?_ (fun K hK => ?_) AllReadyH.nil
            rotate_left
            · (simp only [List.getElem?_toArray, List.getElem?_cons_zero, List.getElem?_cons_succ]; rfl)
            go_simp
            go_at_call 35
            refine (toIntSSG _ _ _ z4 _ hs4 (ha4.below B_104)).mono ?_
            rintro e w105 ⟨g105, rfl, ho105, hb105⟩
            have p0a_105 := cell_later hb105 p0a_104
            have p0b_105 := cell_later hb105 p0b_104
            have p1a_105 := cell_later hb105 p1a_104
            have p1b_105 := cell_later hb105 p1b_104
            have p2a_105 := cell_later hb105 p2a_104
            have p2b_105 := cell_later hb105 p2b_104
            have p3a_105 := cell_later hb105 p3a_104
            have p3b_105 := cell_later hb105 p3b_104
            have h0_105 := h0_104.below hb105
            have h1_105 := h1_104.below hb105
            have h2_105 := h2_104.below hb105
            have h3_105 := ho104.below hb105
            have hq105 := (hb105.block (w101.heap.size) (Array.getElem?_eq_some_iff.1 hq104).1).trans hq104
            have B_105 := B_104.trans (hb105.mono B_104.size)
            have Y_105 : Below w96.heap.size w96 w105 := Y_104.trans (hb105.mono Y_104.size)
            have zz105 : w104.heap.size ≤ w105.heap.size := by have q := hb105.size; first | exact q | simpa using q
            (try go_wp2_with fail)
            refine hK.out _ _ ?_ (fun hHeld' => ?_)
            · (try dsimp only)
              exact ⟨p0a_105, p0b_105, p1a_105, p1b_105, p2a_105, p2b_105, p3a_105, p3b_105⟩
            clear hK K hHeld
            have hHeld := hHeld'
            clear hHeld'
            (try simp only [Act.put, List.setIfInBounds_toArray, List.set_cons_zero, List.set_cons_succ])
            refine wpAnyH_ready (rs := [10]) (by kernel_rfl) (by simp) ?_
            refine AllReadyH.cons (o := ?_) ?_ (fun K hK => ?_) AllReadyH.nil
            rotate_left
            · (simp only [List.getElem?_toArray, List.getElem?_cons_zero, List.getElem?_cons_succ]; rfl)
            go_simp
            go_at_call 10
            refine (HI.out _ _ _ _ _ _ _ _ _ _ _ _ _ _ _ _ _ _ _ _ _ h0_105 h1_105 h2_105 h3_105 ho105).mono ?_
            rintro e w106 ⟨⟨r106, m106, d106, cs106, rfl, ho106⟩, hb106⟩
            have p0a_106 := cell_later hb106 p0a_105
            have p0b_106 := cell_later hb106 p0b_105
            have p1a_106 := cell_later hb106 p1a_105
            have p1b_106 := cell_later hb106 p1b_105
            have p2a_106 := cell_later hb106 p2a_105
            have p2b_106 := cell_later hb106 p2b_105
            have p3a_106 := cell_later hb106 p3a_105
            have p3b_106 := cell_later hb106 p3b_105
            have hq106 := (hb106.block (w101.heap.size) (Array.getElem?_eq_some_iff.1 hq105).1).trans hq105
            have B_106 := B_105.trans (hb106.mono B_105.size)
            have Y_106 : Below w96.heap.size w96 w106 := Y_105.trans (hb106.mono Y_105.size)
            have zz106 : w105.heap.size ≤ w106.heap.size := by have q := hb106.size; first | exact q | simpa using q
            (try go_wp2_with fail)
            refine hK.out _ _ ?_ (fun hHeld' => ?_)
            · (try dsimp only)
              exact ⟨p0a_106, p0b_106, p1a_106, p1b_106, p2a_106, p2b_106, p3a_106, p3b_106⟩
            clear hK K hHeld
            have hHeld := hHeld'
            clear hHeld'
            (try simp only [Act.put, List.setIfInBounds_toArray, List.set_cons_zero, List.set_cons_succ])
            refine wpAnyH_take (i := 11) (oi := ?_) (v := ?_) ?_ (by kernel_rfl) (by kernel_rfl) (by kernel_rfl) ?_ (Or.inl ⟨?_, ?_⟩) (by assumption) ?_
            rotate_left 2
            · (simp only [List.getElem?_toArray, List.getElem?_cons_zero, List.getElem?_cons_succ]; rfl)
            · exact fun _ _ _ h => h
            · rfl
            · (intro wS hSw; (try dsimp only at hSw); go_simp; (try with_reducible rfl))
            (try simp only [Act.put, List.setIfInBounds_toArray, List.set_cons_zero, List.set_cons_succ])
            refine wpAnyH_take (i := 12) (oi := ?_) (v := ?_) ?_ (by kernel_rfl) (by kernel_rfl) (by kernel_rfl) ?_ (Or.inl ⟨?_, ?_⟩) (by assumption) ?_
            rotate_left 2
            · (simp only [List.getElem?_toArray, List.getElem?_cons_zero, List.getElem?_cons_succ]; rfl)
            · exact fun _ _ _ h => h
            · rfl
            · (intro wS hSw; (try dsimp only at hSw); go_simp; (try with_reducible rfl))
            (try simp only [Act.put, List.setIfInBounds_toArray, List.set_cons_zero, List.set_cons_succ])
            refine wpAnyH_take (i := 13) (oi := ?_) (v := ?_) ?_ (by kernel_rfl) (by kernel_rfl) (by kernel_rfl) ?_ (Or.inl ⟨?_, ?_⟩) (by assumption) ?_
            rotate_left 2
            · (simp only [List.getElem?_toArray, List.getElem?_cons_zero, List.getElem?_cons_succ]; rfl)
            · exact fun _ _ _ h => h
            · rfl
            · (intro wS hSw; (try dsimp only at hSw); go_simp; (try with_reducible rfl))
            (try simp only [Act.put, List.setIfInBounds_toArray, List.set_cons_zero, List.set_cons_succ])
            have u0 : w106.cell? ⟨w101.heap.size, 0, none⟩ = some (.int .i64 0) := by rw [cell_of_row _ _ 0 _ _ (0, 0) hq106]; rfl
            have u1 : w106.cell? ⟨w101.heap.size, 1, none⟩ = some (.slice none 0 0) := by rw [cell_of_row _ _ 1 _ _ (0, 0) hq106]; rfl
            have v0 : w106.frozen? ⟨w101.heap.size, 0, none⟩ = false := frozen_of_row _ _ 0 _ _ hq106
            have v1 : w106.frozen? ⟨w101.heap.size, 1, none⟩ = false := frozen_of_row _ _ 1 _ _ hq106
            refine wpAnyH_ready (rs := [15]) (by kernel_rfl) (by simp) ?_
            refine AllReadyH.cons (o := ?_) ?_ (fun K hK => ?_) AllReadyH.nil
            rotate_left
            · (simp only [List.getElem?_toArray, List.getElem?_cons_zero, List.getElem?_cons_succ]; rfl)
            go_simp
            skip
            (try go_wp2_with fail)
            refine hK.out _ _ ?_ (fun hHeld' => ?_)
            · (try dsimp only)
              exact ⟨keep_far (keep_far p0a_106 (by omega)) (by omega), keep_far (keep_far p0b_106 (by omega)) (by omega), keep_far (keep_far p1a_106 (by omega)) (by omega), keep_far (keep_far p1b_106 (by omega)) (by omega), keep_far (keep_far p2a_106 (by omega)) (by omega), keep_far (keep_far p2b_106 (by omega)) (by omega), keep_far (keep_far p3a_106 (by omega)) (by omega), keep_far (keep_far p3b_106 (by omega)) (by omega)⟩
            clear hK K hHeld
            have hHeld := hHeld'
            clear hHeld'
            (try simp only [Act.put, List.setIfInBounds_toArray, List.set_cons_zero, List.set_cons_succ])
            refine wpAnyH_take (i := 16) (oi := ?_) (v := ?_) ?_ (by kernel_rfl) (by kernel_rfl) (by kernel_rfl) ?_ (Or.inl ⟨?_, ?_⟩) (by assumption) ?_
            rotate_left 2
            · (simp only [List.getElem?_toArray, List.getElem?_cons_zero, List.getElem?_cons_succ]; rfl)
            · exact fun _ _ _ h => h
            · rfl
            · (intro wS hSw; (try dsimp only at hSw); go_simp; (try with_reducible rfl))
            (try simp only [Act.put, List.setIfInBounds_toArray, List.set_cons_zero, List.set_cons_succ])
            refine wpAnyH_done (by kernel_rfl) ?_ _
            (try go_wp2_with fail)
            go_meet
            case rel =>
              have owk : OwnT w106 w105.heap.size w106.heap.size r106 m106 d106 ta := ⟨cs106, ho106⟩
              exact ⟨w101.heap.size, r106, m106, d106, w105.heap.size, w106.heap.size, rfl, rfl, set2_0 hq106 _ _, set2_1 hq106 _ _, owk.set2 (.inl (by omega)) _ _, by omega, by simp [World.setCell], by omega, by simp only [World.setCell, Array.size_modify]; omega, .inl (by omega), (Y_106.setCell (by show w96.heap.size ≤ w101.heap.size; omega) _).setCell (by show w96.heap.size ≤ w101.heap.size; omega) _⟩
        refine AllReadyH.cons (o := ?_) ?_ (fun K hK => ?_) AllReadyH.nil
        rotate_left
        · (simp only [List.getElem?_toArray, List.getElem?_cons_zero, List.getElem?_cons_succ]; rfl)
        · go_simp
          (try go_wp2_with fail)
          refine hK.out _ _ ?_ (fun hHeld' => ?_)
          · (try dsimp only)
            exact ⟨cell_later ((Below.refl _ _).alloc (Nat.le_refl _) _) p0a_100, cell_later ((Below.refl _ _).alloc (Nat.le_refl _) _) p0b_100, cell_later ((Below.refl _ _).alloc (Nat.le_refl _) _) p1a_100, cell_later ((Below.refl _ _).alloc (Nat.le_refl _) _) p1b_100, cell_later ((Below.refl _ _).alloc (Nat.le_refl _) _) p2a_100, cell_later ((Below.refl _ _).alloc (Nat.le_refl _) _) p2b_100, cell_later ((Below.refl _ _).alloc (Nat.le_refl _) _) p3a_100, cell_later ((Below.refl _ _).alloc (Nat.le_refl _) _) p3b_100⟩
          clear hK K hHeld
          have hHeld := hHeld'
          clear hHeld'
          (try simp only [Act.put, List.setIfInBounds_toArray, List.set_cons_zero, List.set_cons_succ])
          obtain ⟨w101, hU101⟩ : ∃ u, u = w100.alloc (.cells #[.int .i64 0, .slice none 0 0] 25) := ⟨_, rfl⟩
          have hb101 : Below w100.heap.size w100 w101 := by rw [hU101]; exact (Below.refl _ _).alloc (Nat.le_refl _) _
          have zp101 : w101.heap.size = w100.heap.size + 1 := by rw [hU101]; simp
          have hp101 : w101.heap[w100.heap.size]? = some (.cells #[.int .i64 0, .slice none 0 0] 25 (0, 0)) := by rw [hU101]; exact heap_alloc_new _ _
          rw [← hU101]
          clear hU101
          have p0a_101 := cell_later hb101 p0a_100
          have p0b_101 := cell_later hb101 p0b_100
          have p1a_101 := cell_later hb101 p1a_100
          have p1b_101 := cell_later hb101 p1b_100
          have p2a_101 := cell_later hb101 p2a_100
          have p2b_101 := cell_later hb101 p2b_100
          have p3a_101 := cell_later hb101 p3a_100
          have p3b_101 := cell_later hb101 p3b_100
          have h0_101 := ho100.below hb101
          have B_101 := B_100.trans (hb101.mono B_100.size)
          have Y_101 : Below w96.heap.size w96 w101 := Y_100.trans (hb101.mono Y_100.size)
          have zz101 : w100.heap.size ≤ w101.heap.size := by have q := hb101.size; first | exact q | simpa using q
          refine wpAnyH_ready (rs := [3]) (by kernel_rfl) (by simp) ?_
          refine AllReadyH.cons (o := ?_) ?_ (fun K hK => ?_) AllReadyH.nil
          rotate_left
          · (simp only [List.getElem?_toArray, List.getElem?_cons_zero, List.getElem?_cons_succ]; rfl)
          go_simp
          go_at_call 34
          refine (toTableG _ _ _ z1 p1x _ hs1 (ha1.below B_101)).mono ?_
          rintro e w102 ⟨g102, rfl, ho102, hb102⟩
          have p0a_102 := cell_later hb102 p0a_101
          have p0b_102 := cell_later hb102 p0b_101
          have p1a_102 := cell_later hb102 p1a_101
          have p1b_102 := cell_later hb102 p1b_101
          have p2a_102 := cell_later hb102 p2a_101
          have p2b_102 := cell_later hb102 p2b_101
          have p3a_102 := cell_later hb102 p3a_101
          have p3b_102 := cell_later hb102 p3b_101
          have h0_102 := h0_101.below hb102
          have hq102 := (hb102.block (w100.heap.size) (Array.getElem?_eq_some_iff.1 hp101).1).trans hp101
          have B_102 := B_101.trans (hb102.mono B_101.size)
          have Y_102 : Below w96.heap.size w96 w102 := Y_101.trans (hb102.mono Y_101.size)
          have zz102 : w101.heap.size ≤ w102.heap.size := by have q := hb102.size; first | exact q | simpa using q
          (try go_wp2_with fail)
          refine hK.out _ _ ?_ (fun hHeld' => ?_)
          · (try dsimp only)
            exact ⟨p0a_102, p0b_102, p1a_102, p1b_102, p2a_102, p2b_102, p3a_102, p3b_102⟩
          clear hK K hHeld
          have hHeld := hHeld'
          clear hHeld'
          (try simp only [Act.put, List.setIfInBounds_toArray, List.set_cons_zero, List.set_cons_succ])
          refine wpAnyH_ready (rs := [5]) (by kernel_rfl) (by simp) ?_
          refine AllReadyH.cons (o := ?_) ?_ (fun K hK => ?_) AllReadyH.nil
          rotate_left
          · (simp only [List.getElem?_toArray, List.getElem?_cons_zero, List.getElem?_cons_succ]; rfl)
          go_simp
          go_at_call 34
          refine (toTableG _ _ _ z2 p2x _ hs2 (ha2.below B_102)).mono ?_
          rintro e w103 ⟨g103, rfl, ho103, hb103⟩
          have p0a_103 := cell_later hb103 p0a_102
          have p0b_103 := cell_later hb103 p0b_102
          have p1a_103 := cell_later hb103 p1a_102
          have p1b_103 := cell_later hb103 p1b_102
          have p2a_103 := cell_later hb103 p2a_102
          have p2b_103 := cell_later hb103 p2b_102
          have p3a_103 := cell_later hb103 p3a_102
          have p3b_103 := cell_later hb103 p3b_102
          have h0_103 := h0_102.below hb103
          have h1_103 := ho102.below hb103
          have hq103 := (hb103.block (w100.heap.size) (Array.getElem?_eq_some_iff.1 hq102).1).trans hq102
          have B_103 := B_102.trans (hb103.mono B_102.size)
          have Y_103 : Below w96.heap.size w96 w103 := Y_102.trans (hb103.mono Y_102.size)
          have zz103 : w102.heap.size ≤ w103.heap.size := by have q := hb103.size; first | exact q | simpa using q
          (try go_wp2_with fail)
          refine hK.out _ _ ?_ (fun hHeld' => ?_)
          · (try dsimp only)
            exact ⟨p0a_103, p0b_103, p1a_103, p1b_103, p2a_103, p2b_103, p3a_103, p3b_103⟩
          clear hK K hHeld
          have hHeld := hHeld'
          clear hHeld'
          (try simp only [Act.put, List.setIfInBounds_toArray, List.set_cons_zero, List.set_cons_succ])
          refine wpAnyH_ready (rs := [7]) (by kernel_rfl) (by simp) ?_
          refine AllReadyH.cons (o := ?_) ?_ (fun K hK => ?_) AllReadyH.nil
          rotate_left
          · (simp only [List.getElem?_toArray, List.getElem?_cons_zero, List.getElem?_cons_succ]; rfl)
          go_simp
          go_at_call 34
          refine (toTableG _ _ _ z3 p3x _ hs3 (ha3.below B_103)).mono ?_
          rintro e w104 ⟨g104, rfl, ho104, hb104⟩
          have p0a_104 := cell_later hb104 p0a_103
          have p0b_104 := cell_later hb104 p0b_103
          have p1a_104 := cell_later hb104 p1a_103
          have p1b_104 := cell_later hb104 p1b_103
          have p2a_104 := cell_later hb104 p2a_103
          have p2b_104 := cell_later hb104 p2b_103
          have p3a_104 := cell_later hb104 p3a_103
          have p3b_104 := cell_later hb104 p3b_103
          have h0_104 := h0_103.below hb104
          have h1_104 := h1_103.below hb104
          have h2_104 := ho103.below hb104
          have hq104 := (hb104.block (w100.heap.size) (Array.getElem?_eq_some_iff.1 hq103).1).trans hq103
          have B_104 := B_103.trans (hb104.mono B_103.size)
          have Y_104 : Below w96.heap.size w96 w104 := Y_103.trans (hb104.mono Y_103.size)
          have zz104 : w103.heap.size ≤ w104.heap.size := by have q := hb104.size; first | exact q | simpa using q
          (try go_wp2_with fail)
          refine hK.out _ _ ?_ (fun hHeld' => ?_)
          · (try dsimp only)
            exact ⟨p0a_104, p0b_104, p1a_104, p1b_104, p2a_104, p2b_104, p3a_104, p3b_104⟩
          clear hK K hHeld
          have hHeld := hHeld'
          clear hHeld'
          (try simp only [Act.put, List.setIfInBounds_toArray, List.set_cons_zero, List.set_cons_succ])
          refine wpAnyH_ready (rs := [9]) (by kernel_rfl) (by simp) ?_
          refine AllReadyH.cons (o := ?_) ?_ (fun K hK => ?_) AllReadyH.nil
          rotate_left
          · (simp only [List.getElem?_toArray, List.getElem?_cons_zero, List.getElem?_cons_succ]; rfl)
          go_simp
          go_at_call 35
          refine (toIntSSG _ _ _ z4 _ hs4 (ha4.below B_104)).mono ?_
          rintro e w105 ⟨g105, rfl, ho105, hb105⟩
          have p0a_105 := cell_later hb105 p0a_104
          have p0b_105 := cell_later hb105 p0b_104
          have p1a_105 := cell_later hb105 p1a_104
          have p1b_105 := cell_later hb105 p1b_104
          have p2a_105 := cell_later hb105 p2a_104
          have p2b_105 := cell_later hb105 p2b_104
          have p3a_105 := cell_later hb105 p3a_104
          have p3b_105 := cell_later hb105 p3b_104
          have h0_105 := h0_104.below hb105
          have h1_105 := h1_104.below hb105
          have h2_105 := h2_104.below hb105
          have h3_105 := ho104.below hb105
          have hq105 := (hb105.block (w100.heap.size) (Array.getElem?_eq_some_iff.1 hq104).1).trans hq104
          have B_105 := B_104.trans (hb105.mono B_104.size)
          have Y_105 : Below w96.heap.size w96 w105 := Y_104.trans (hb105.mono Y_104.size)
          have zz105 : w104.heap.size ≤ w105.heap.size := by have q := hb105.size; first | exact q | simpa using q
          (try go_wp2_with fail)
          refine hK.out _ _ ?_ (fun hHeld' => ?_)
          · (try dsimp only)
            exact ⟨p0a_105, p0b_105, p1a_105, p1b_105, p2a_105, p2b_105, p3a_105, p3b_105⟩
          clear hK K hHeld
          have hHeld := hHeld'
          clear hHeld'
          (try simp only [Act.put, List.setIfInBounds_toArray, List.set_cons_zero, List.set_cons_succ])
          refine wpAnyH_ready (rs := [10]) (by kernel_rfl) (by simp) ?_
          refine AllReadyH.cons (o := ?_) ?_ (fun K hK => ?_) AllReadyH.nil
          rotate_left
          · (simp only [List.getElem?_toArray, List.getElem?_cons_zero, List.getElem?_cons_succ]; rfl)
          go_simp
          go_at_call 10
          refine (HI.out _ _ _ _ _ _ _ _ _ _ _ _ _ _ _ _ _ _ _ _ _ h0_105 h1_105 h2_105 h3_105 ho105).mono ?_
          rintro e w106 ⟨⟨r106, m106, d106, cs106, rfl, ho106⟩, hb106⟩
          have p0a_106 := cell_later hb106 p0a_105
          have p0b_106 := cell_later hb106 p0b_105
          have p1a_106 := cell_later hb106 p1a_105
          have p1b_106 := cell_later hb106 p1b_105
          have p2a_106 := cell_later hb106 p2a_105
          have p2b_106 := cell_later hb106 p2b_105
          have p3a_106 := cell_later hb106 p3a_105
          have p3b_106 := cell_later hb106 p3b_105
          have hq106 := (hb106.block (w100.heap.size) (Array.getElem?_eq_some_iff.1 hq105).1).trans hq105
          have B_106 := B_105.trans (hb106.mono B_105.size)
          have Y_106 : Below w96.heap.size w96 w106 := Y_105.trans (hb106.mono Y_105.size)
          have zz106 : w105.heap.size ≤ w106.heap.size := by have q := hb106.size; first | exact q | simpa using q
          (try go_wp2_with fail)
          refine hK.out _ _ ?_ (fun hHeld' => ?_)
          · (try dsimp only)
            exact ⟨p0a_106, p0b_106, p1a_106, p1b_106, p2a_106, p2b_106, p3a_106, p3b_106⟩
          clear hK K hHeld
          have hHeld := hHeld'
          clear hHeld'
          (try simp only [Act.put, List.setIfInBounds_toArray, List.set_cons_zero, List.set_cons_succ])
          refine wpAnyH_take (i := 11) (oi := ?_) (v := ?_) ?_ (by kernel_rfl) (by kernel_rfl) (by kernel_rfl) ?_ (Or.inl ⟨?_, ?_⟩) (by assumption) ?_
          rotate_left 2
          · (simp only [List.getElem?_toArray, List.getElem?_cons_zero, List.getElem?_cons_succ]; rfl)
          · exact fun _ _ _ h => h
          · rfl
          · (intro wS hSw; (try dsimp only at hSw); go_simp; (try with_reducible rfl))
          (try simp only [Act.put, List.setIfInBounds_toArray, List.set_cons_zero, List.set_cons_succ])
          refine wpAnyH_take (i := 12) (oi := ?_) (v := ?_) ?_ (by kernel_rfl) (by kernel_rfl) (by kernel_rfl) ?_ (Or.inl ⟨?_, ?_⟩) (by assumption) ?_
          rotate_left 2
          · (simp only [List.getElem?_toArray, List.getElem?_cons_zero, List.getElem?_cons_succ]; rfl)
          · exact fun _ _ _ h => h
          · rfl
          · (intro wS hSw; (try dsimp only at hSw); go_simp; (try with_reducible rfl))
          (try simp only [Act.put, List.setIfInBounds_toArray, List.set_cons_zero, List.set_cons_succ])
          refine wpAnyH_take (i := 13) (oi := ?_) (v := ?_) ?_ (by kernel_rfl) (by kernel_rfl) (by kernel_rfl) ?_ (Or.inl ⟨?_, ?_⟩) (by assumption) ?_
          rotate_left 2
          · (simp only [List.getElem?_toArray, List.getElem?_cons_zero, List.getElem?_cons_succ]; rfl)
          · exact fun _ _ _ h => h
          · rfl
          · (intro wS hSw; (try dsimp only at hSw); go_simp; (try with_reducible rfl))
          (try simp only [Act.put, List.setIfInBounds_toArray, List.set_cons_zero, List.set_cons_succ])
          have u0 : w106.cell? ⟨w100.heap.size, 0, none⟩ = some (.int .i64 0) := by rw [cell_of_row _ _ 0 _ _ (0, 0) hq106]; rfl
          have u1 : w106.cell? ⟨w100.heap.size, 1, none⟩ = some (.slice none 0 0) := by rw [cell_of_row _ _ 1 _ _ (0, 0) hq106]; rfl
          have v0 : w106.frozen? ⟨w100.heap.size, 0, none⟩ = false := frozen_of_row _ _ 0 _ _ hq106
          have v1 : w106.frozen? ⟨w100.heap.size, 1, none⟩ = false := frozen_of_row _ _ 1 _ _ hq106
          refine wpAnyH_ready (rs := [15]) (by kernel_rfl) (by simp) ?_
          refine AllReadyH.cons (o := ?_) ?_ (fun K hK => ?_) AllReadyH.nil
          rotate_left
          · (simp only [List.getElem?_toArray, List.getElem?_cons_zero, List.getElem?_cons_succ]; rfl)
          go_simp
          skip
          (try go_wp2_with fail)
          refine hK.out _ _ ?_ (fun hHeld' => ?_)
          · (try dsimp only)
            exact ⟨keep_far (keep_far p0a_106 (by omega)) (by omega), keep_far (keep_far p0b_106 (by omega)) (by omega), keep_far (keep_far p1a_106 (by omega)) (by omega), keep_far (keep_far p1b_106 (by omega)) (by omega), keep_far (keep_far p2a_106 (by omega)) (by omega), keep_far (keep_far p2b_106 (by omega)) (by omega), keep_far (keep_far p3a_106 (by omega)) (by omega), keep_far (keep_far p3b_106 (by omega)) (by omega)⟩
          clear hK K hHeld
          have hHeld := hHeld'
          clear hHeld'
          (try simp only [Act.put, List.setIfInBounds_toArray, List.set_cons_zero, List.set_cons_succ])
          refine wpAnyH_take (i := 16) (oi := ?_) (v := ?_) ?_ (by kernel_rfl) (by kernel_rfl) (by kernel_rfl) ?_ (Or.inl ⟨?_, ?_⟩) (by assumption) ?_
          rotate_left 2
          · (simp only [List.getElem?_toArray, List.getElem?_cons_zero, List.getElem?_cons_succ]; rfl)
          · exact fun _ _ _ h => h
          · rfl
          · (intro wS hSw; (try dsimp only at hSw); go_simp; (try with_reducible rfl))
          (try simp only [Act.put, List.setIfInBounds_toArray, List.set_cons_zero, List.set_cons_succ])
          refine wpAnyH_done (by kernel_rfl) ?_ _
          (try go_wp2_with fail)
          go_meet
          case rel =>
            have owk : OwnT w106 w105.heap.size w106.heap.size r106 m106 d106 ta := ⟨cs106, ho106⟩
            exact ⟨w100.heap.size, r106, m106, d106, w105.heap.size, w106.heap.size, rfl, rfl, set2_0 hq106 _ _, set2_1 hq106 _ _, owk.set2 (.inl (by omega)) _ _, by omega, by simp [World.setCell], by omega, by simp only [World.setCell, Array.size_modify]; omega, .inl (by omega), (Y_106.setCell (by show w96.heap.size ≤ w100.heap.size; omega) _).setCell (by show w96.heap.size ≤ w100.heap.size; omega) _⟩
      refine AllReadyH.cons (o := ?_) ?_ (fun K hK => ?_) AllReadyH.nil
      rotate_left
      · (simp only [List.getElem?_toArray, List.getElem?_cons_zero, List.getElem?_cons_succ]; rfl)
      · go_simp
        (try go_wp2_with fail)
        refine hK.out _ _ ?_ (fun hHeld' => ?_)
        · (try dsimp only)
          exact ⟨cell_later ((Below.refl _ _).alloc (Nat.le_refl _) _) p0a_99, cell_later ((Below.refl _ _).alloc (Nat.le_refl _) _) p0b_99, cell_later ((Below.refl _ _).alloc (Nat.le_refl _) _) p1a_99, cell_later ((Below.refl _ _).alloc (Nat.le_refl _) _) p1b_99, cell_later ((Below.refl _ _).alloc (Nat.le_refl _) _) p2a_99, cell_later ((Below.refl _ _).alloc (Nat.le_refl _) _) p2b_99, cell_later ((Below.refl _ _).alloc (Nat.le_refl _) _) p3a_99, cell_later ((Below.refl _ _).alloc (Nat.le_refl _) _) p3b_99⟩
        clear hK K hHeld
        have hHeld := hHeld'
        clear hHeld'
        (try simp only [Act.put, List.setIfInBounds_toArray, List.set_cons_zero, List.set_cons_succ])
        obtain ⟨w100, hU100⟩ : ∃ u, u = w99.alloc (.cells #[.int .i64 0, .slice none 0 0] 25) := ⟨_, rfl⟩
        have hb100 : Below w99.heap.size w99 w100 := by rw [hU100]; exact (Below.refl _ _).alloc (Nat.le_refl _) _
        have zp100 : w100.heap.size = w99.heap.size + 1 := by rw [hU100]; simp
        have hp100 : w100.heap[w99.heap.size]? = some (.cells #[.int .i64 0, .slice none 0 0] 25 (0, 0)) := by rw [hU100]; exact heap_alloc_new _ _
        rw [← hU100]
        clear hU100
        have p0a_100 := cell_later hb100 p0a_99
        have p0b_100 := cell_later hb100 p0b_99
        have p1a_100 := cell_later hb100 p1a_99
        have p1b_100 := cell_later hb100 p1b_99
        have p2a_100 := cell_later hb100 p2a_99
        have p2b_100 := cell_later hb100 p2b_99
        have p3a_100 := cell_later hb100 p3a_99
        have p3b_100 := cell_later hb100 p3b_99
        have B_100 := B_99.trans (hb100.mono B_99.size)
        have Y_100 : Below w96.heap.size w96 w100 := Y_99.trans (hb100.mono Y_99.size)
        have zz100 : w99.heap.size ≤ w100.heap.size := by have q := hb100.size; first | exact q | simpa using q
        refine wpAnyH_ready (rs := [1]) (by kernel_rfl) (by simp) ?_
        refine AllReadyH.cons (o := ?_) ?_ (fun K hK => ?_) AllReadyH.nil
        rotate_left
        · (simp only [List.getElem?_toArray, List.getElem?_cons_zero, List.getElem?_cons_succ]; rfl)
        go_simp
        go_at_call 34
        refine (toTableG _ _ _ z0 p0x _ hs0 (ha0.below B_100)).mono ?_
        rintro e w101 ⟨g101, rfl, ho101, hb101⟩
        have p0a_101 := cell_later hb101 p0a_100
        have p0b_101 := cell_later hb101 p0b_100
        have p1a_101 := cell_later hb101 p1a_100
        have p1b_101 := cell_later hb101 p1b_100
        have p2a_101 := cell_later hb101 p2a_100
        have p2b_101 := cell_later hb101 p2b_100
        have p3a_101 := cell_later hb101 p3a_100
        have p3b_101 := cell_later hb101 p3b_100
        have hq101 := (hb101.block (w99.heap.size) (Array.getElem?_eq_some_iff.1 hp100).1).trans hp100
        have B_101 := B_100.trans (hb101.mono B_100.size)
        have Y_101 : Below w96.heap.size w96 w101 := Y_100.trans (hb101.mono Y_100.size)
        have zz101 : w100.heap.size ≤ w101.heap.size := by have q := hb101.size; first | exact q | simpa using q
        (try go_wp2_with fail)
        refine hK.out _ _ ?_ (fun hHeld' => ?_)
        · (try dsimp only)
          exact ⟨p0a_101, p0b_101, p1a_101, p1b_101, p2a_101, p2b_101, p3a_101, p3b_101⟩
        clear hK K hHeld
        have hHeld := hHeld'
        clear hHeld'
        (try simp only [Act.put, List.setIfInBounds_toArray, List.set_cons_zero, List.set_cons_succ])
        refine wpAnyH_ready (rs := [3]) (by kernel_rfl) (by simp) ?_
        refine AllReadyH.cons (o := ?_) ?_ (fun K hK => ?_) AllReadyH.nil
        rotate_left
        · (simp only [List.getElem?_toArray, List.getElem?_cons_zero, List.getElem?_cons_succ]; rfl)
        go_simp
        go_at_call 34
        refine (toTableG _ _ _ z1 p1x _ hs1 (ha1.below B_101)).mono ?_
        rintro e w102 ⟨g102, rfl, ho102, hb102⟩
        have p0a_102 := cell_later hb102 p0a_101
        have p0b_102 := cell_later hb102 p0b_101
        have p1a_102 := cell_later hb102 p1a_101
        have p1b_102 := cell_later hb102 p1b_101
        have p2a_102 := cell_later hb102 p2a_101
        have p2b_102 := cell_later hb102 p2b_101
        have p3a_102 := cell_later hb102 p3a_101
        have p3b_102 := cell_later hb102 p3b_101
        have h0_102 := ho101.below hb102
        have hq102 := (hb102.block (w99.heap.size) (Array.getElem?_eq_some_iff.1 hq101).1).trans hq101
        have B_102 := B_101.trans (hb102.mono B_101.size)
        have Y_102 : Below w96.heap.size w96 w102 := Y_101.trans (hb102.mono Y_101.size)
        have zz102 : w101.heap.size ≤ w102.heap.size := by have q := hb102.size; first | exact q | simpa using q
        (try go_wp2_with fail)
        refine hK.out _ _ ?_ (fun hHeld' => ?_)
        · (try dsimp only)
          exact ⟨p0a_102, p0b_102, p1a_102, p1b_102, p2a_102, p2b_102, p3a_102, p3b_102⟩
        clear hK K hHeld
        have hHeld := hHeld'
        clear hHeld'
        (try simp only [Act.put, List.setIfInBounds_toArray, List.set_cons_zero, List.set_cons_succ])
        refine wpAnyH_ready (rs := [5]) (by kernel_rfl) (by simp) ?_
        refine AllReadyH.cons (o := ?_) ?_ (fun K hK => ?_) AllReadyH.nil
        rotate_left
        · (simp only [List.getElem?_toArray, List.getElem?_cons_zero, List.getElem?_cons_succ]; rfl)
        go_simp
        go_at_call 34
        refine (toTableG _ _ _ z2 p2x _ hs2 (ha2.below B_102)).mono ?_
        rintro e w103 ⟨g103, rfl, ho103, hb103⟩
        have p0a_103 := cell_later hb103 p0a_102
        have p0b_103 := cell_later hb103 p0b_102
        have p1a_103 := cell_later hb103 p1a_102
        have p1b_103 := cell_later hb103 p1b_102
        have p2a_103 := cell_later hb103 p2a_102
        have p2b_103 := cell_later hb103 p2b_102
        have p3a_103 := cell_later hb103 p3a_102
        have p3b_103 := cell_later hb103 p3b_102
        have h0_103 := h0_102.below hb103
        have h1_103 := ho102.below hb103
        have hq103 := (hb103.block (w99.heap.size) (Array.getElem?_eq_some_iff.1 hq102).1).trans hq102
        have B_103 := B_102.trans (hb103.mono B_102.size)
        have Y_103 : Below w96.heap.size w96 w103 := Y_102.trans (hb103.mono Y_102.size)
        have zz103 : w102.heap.size ≤ w103.heap.size := by have q := hb103.size; first | exact q | simpa using q
        (try go_wp2_with fail)
        refine hK.out _ _ ?_ (fun hHeld' => ?_)
        · (try dsimp only)
          exact ⟨p0a_103, p0b_103, p1a_103, p1b_103, p2a_103, p2b_103, p3a_103, p3b_103⟩
        clear hK K hHeld
        have hHeld := hHeld'
        clear hHeld'
        (try simp only [Act.put, List.setIfInBounds_toArray, List.set_cons_zero, List.set_cons_succ])
        refine wpAnyH_ready (rs := [7]) (by kernel_rfl) (by simp) ?_
        refine AllReadyH.cons (o := ?_) ?_ (fun K hK => ?_) AllReadyH.nil
        rotate_left
        · (simp only [List.getElem?_toArray, List.getElem?_cons_zero, List.getElem?_cons_succ]; rfl)
        go_simp
        go_at_call 34
        refine (toTableG _ _ _ z3 p3x _ hs3 (ha3.below B_103)).mono ?_
        rintro e w104 ⟨g104, rfl, ho104, hb104⟩
        have p0a_104 := cell_later hb104 p0a_103
        have p0b_104 := cell_later hb104 p0b_103
        have p1a_104 := cell_later hb104 p1a_103
        have p1b_104 := cell_later hb104 p1b_103
        have p2a_104 := cell_later hb104 p2a_103
        have p2b_104 := cell_later hb104 p2b_103
        have p3a_104 := cell_later hb104 p3a_103
        have p3b_104 := cell_later hb104 p3b_103
        have h0_104 := h0_103.below hb104
        have h1_104 := h1_103.below hb104
        have h2_104 := ho103.below hb104
        have hq104 := (hb104.block (w99.heap.size) (Array.getElem?_eq_some_iff.1 hq103).1).trans hq103
        have B_104 := B_103.trans (hb104.mono B_103.size)
        have Y_104 : Below w96.heap.size w96 w104 := Y_103.trans (hb104.mono Y_103.size)
        have zz104 : w103.heap.size ≤ w104.heap.size := by have q := hb104.size; first | exact q | simpa using q
        (try go_wp2_with fail)
        refine hK.out _ _ ?_ (fun hHeld' => ?_)
        · (try dsimp only)
          exact ⟨p0a_104, p0b_104, p1a_104, p1b_104, p2a_104, p2b_104, p3a_104, p3b_104⟩
        clear hK K hHeld
        have hHeld := hHeld'
        clear hHeld'
        (try simp only [Act.put, List.setIfInBounds_toArray, List.set_cons_zero, List.set_cons_succ])
        refine wpAnyH_ready (rs := [9]) (by kernel_rfl) (by simp) ?_
        refine AllReadyH.cons (o := ?_) ?_ (fun K hK => ?_) AllReadyH.nil
        rotate_left
        · (simp only [List.getElem?_toArray, List.getElem?_cons_zero, List.getElem?_cons_succ]; rfl)
        go_simp
        go_at_call 35
        refine (toIntSSG _ _ _ z4 _ hs4 (ha4.below B_104)).mono ?_
        rintro e w105 ⟨g105, rfl, ho105, hb105⟩
        have p0a_105 := cell_later hb105 p0a_104
        have p0b_105 := cell_later hb105 p0b_104
        have p1a_105 := cell_later hb105 p1a_104
        have p1b_105 := cell_later hb105 p1b_104
        have p2a_105 := cell_later hb105 p2a_104
        have p2b_105 := cell_later hb105 p2b_104
        have p3a_105 := cell_later hb105 p3a_104
        have p3b_105 := cell_later hb105 p3b_104
        have h0_105 := h0_104.below hb105
        have h1_105 := h1_104.below hb105
        have h2_105 := h2_104.below hb105
        have h3_105 := ho104.below hb105
        have hq105 := (hb105.block (w99.heap.size) (Array.getElem?_eq_some_iff.1 hq104).1).trans hq104
        have B_105 := B_104.trans (hb105.mono B_104.size)
        have Y_105 : Below w96.heap.size w96 w105 := Y_104.trans (hb105.mono Y_104.size)
        have zz105 : w104.heap.size ≤ w105.heap.size := by have q := hb105.size; first | exact q | simpa using q
        (try go_wp2_with fail)
        refine hK.out _ _ ?_ (fun hHeld' => ?_)
        · (try dsimp only)
          exact ⟨p0a_105, p0b_105, p1a_105, p1b_105, p2a_105, p2b_105, p3a_105, p3b_105⟩
        clear hK K hHeld
        have hHeld := hHeld'
        clear hHeld'
        (try simp only [Act.put, List.setIfInBounds_toArray, List.set_cons_zero, List.set_cons_succ])
        refine wpAnyH_ready (rs := [10]) (by kernel_rfl) (by simp) ?_
        refine AllReadyH.cons (o := ?_) ?_ (fun K hK => ?_) AllReadyH.nil
        rotate_left
        · (simp only [List.getElem?_toArray, List.getElem?_cons_zero, List.getElem?_cons_succ]; rfl)
        go_simp
        go_at_call 10
        refine (HI.out _ _ _ _ _ _ _ _ _ _ _ _ _ _ _ _ _ _ _ _ _ h0_105 h1_105 h2_105 h3_105 ho105).mono ?_
        rintro e w106 ⟨⟨r106, m106, d106, cs106, rfl, ho106⟩, hb106⟩
        have p0a_106 := cell_later hb106 p0a_105
        have p0b_106 := cell_later hb106 p0b_105
        have p1a_106 := cell_later hb106 p1a_105
        have p1b_106 := cell_later hb106 p1b_105
        have p2a_106 := cell_later hb106 p2a_105
        have p2b_106 := cell_later hb106 p2b_105
        have p3a_106 := cell_later hb106 p3a_105
        have p3b_106 := cell_later hb106 p3b_105
        have hq106 := (hb106.block (w99.heap.size) (Array.getElem?_eq_some_iff.1 hq105).1).trans hq105
        have B_106 := B_105.trans (hb106.mono B_105.size)
        have Y_106 : Below w96.heap.size w96 w106 := Y_105.trans (hb106.mono Y_105.size)
        have zz106 : w105.heap.size ≤ w106.heap.size := by have q := hb106.size; first | exact q | simpa using q
        (try go_wp2_with fail)
        refine hK.out _ _ ?_ (fun hHeld' => ?_)
        · (try dsimp only)
          exact ⟨p0a_106, p0b_106, p1a_106, p1b_106, p2a_106, p2b_106, p3a_106, p3b_106⟩
        clear hK K hHeld
        have hHeld := hHeld'
        clear hHeld'
        (try simp only [Act.put, List.setIfInBounds_toArray, List.set_cons_zero, List.set_cons_succ])
        refine wpAnyH_take (i := 11) (oi := ?_) (v := ?_) ?_ (by kernel_rfl) (by kernel_rfl) (by kernel_rfl) ?_ (Or.inl ⟨?_, ?_⟩) (by assumption) ?_
        rotate_left 2
        · (simp only [List.getElem?_toArray, List.getElem?_cons_zero, List.getElem?_cons_succ]; rfl)
        · exact fun _ _ _ h => h
        · rfl
        · (intro wS hSw; (try dsimp only at hSw); go_simp; (try with_reducible rfl))
        (try simp only [Act.put, List.setIfInBounds_toArray, List.set_cons_zero, List.set_cons_succ])
        refine wpAnyH_take (i := 12) (oi := ?_) (v := ?_) ?_ (by kernel_rfl) (by kernel_rfl) (by kernel_rfl) ?_ (Or.inl ⟨?_, ?_⟩) (by assumption) ?_
        rotate_left 2
        · (simp only [List.getElem?_toArray, List.getElem?_cons_zero, List.getElem?_cons_succ]; rfl)
        · exact fun _ _ _ h => h
        · rfl
        · (intro wS hSw; (try dsimp only at hSw); go_simp; (try with_reducible rfl))
        (try simp only [Act.put, List.setIfInBounds_toArray, List.set_cons_zero, List.set_cons_succ])
        refine wpAnyH_take (i := 13) (oi := ?_) (v := ?_) ?_ (by kernel_rfl) (by kernel_rfl) (by kernel_rfl) ?_ (Or.inl ⟨?_, ?_⟩) (by assumption) ?_
        rotate_left 2
        · (simp only [List.getElem?_toArray, List.getElem?_cons_zero, List.getElem?_cons_succ]; rfl)
        · exact fun _ _ _ h => h
        · rfl
        · (intro wS hSw; (try dsimp only at hSw); go_simp; (try with_reducible rfl))
        (try simp only [Act.put, List.setIfInBounds_toArray, List.set_cons_zero, List.set_cons_succ])
        have u0 : w106.cell? ⟨w99.heap.size, 0, none⟩ = some (.int .i64 0) := by rw [cell_of_row _ _ 0 _ _ (0, 0) hq106]; rfl
        have u1 : w106.cell? ⟨w99.heap.size, 1, none⟩ = some (.slice none 0 0) := by rw [cell_of_row _ _ 1 _ _ (0, 0) hq106]; rfl
        have v0 : w106.frozen? ⟨w99.heap.size, 0, none⟩ = false := frozen_of_row _ _ 0 _ _ hq106
        have v1 : w106.frozen? ⟨w99.heap.size, 1, none⟩ = false := frozen_of_row _ _ 1 _ _ hq106
        refine wpAnyH_ready (rs := [15]) (by kernel_rfl) (by simp) ?_
        refine AllReadyH.cons (o := ?_) ?_ (fun K hK => ?_) AllReadyH.nil
        rotate_left
        · (simp only [List.getElem?_toArray, List.getElem?_cons_zero, List.getElem?_cons_succ]; rfl)
        go_simp
        skip
        (try go_wp2_with fail)
        refine hK.out _ _ ?_ (fun hHeld' => ?_)
        · (try dsimp only)
          exact ⟨keep_far (keep_far p0a_106 (by omega)) (by omega), keep_far (keep_far p0b_106 (by omega)) (by omega), keep_far (keep_far p1a_106 (by omega)) (by omega), keep_far (keep_far p1b_106 (by omega)) (by omega), keep_far (keep_far p2a_106 (by omega)) (by omega), keep_far (keep_far p2b_106 (by omega)) (by omega), keep_far (keep_far p3a_106 (by omega)) (by omega), keep_far (keep_far p3b_106 (by omega)) (by omega)⟩
        clear hK K hHeld
        have hHeld := hHeld'
        clear hHeld'
        (try simp only [Act.put, List.setIfInBounds_toArray, List.set_cons_zero, List.set_cons_succ])
        refine wpAnyH_take (i := 16) (oi := ?_) (v := ?_) ?_ (by kernel_rfl) (by kernel_rfl) (by kernel_rfl) ?_ (Or.inl ⟨?_, ?_⟩) (by assumption) ?_
        rotate_left 2
        · (simp only [List.getElem?_toArray, List.getElem?_cons_zero, List.getElem?_cons_succ]; rfl)
        · exact fun _ _ _ h => h
        · rfl
        · (intro wS hSw; (try dsimp only at hSw); go_simp; (try with_reducible rfl))
        (try simp only [Act.put, List.setIfInBounds_toArray, List.set_cons_zero, List.set_cons_succ])
        refine wpAnyH_done (by kernel_rfl) ?_ _
        (try go_wp2_with fail)
        go_meet
        case rel =>
          have owk : OwnT w106 w105.heap.size w106.heap.size r106 m106 d106 ta := ⟨cs106, ho106⟩
          exact ⟨w99.heap.size, r106, m106, d106, w105.heap.size, w106.heap.size, rfl, rfl, set2_0 hq106 _ _, set2_1 hq106 _ _, owk.set2 (.inl (by omega)) _ _, by omega, by simp [World.setCell], by omega, by simp only [World.setCell, Array.size_modify]; omega, .inl (by omega), (Y_106.setCell (by show w96.heap.size ≤ w99.heap.size; omega) _).setCell (by show w96.heap.size ≤ w99.heap.size; omega) _⟩
    case rest =>
      obtain ⟨Pb157, r157, m157, d157, lo157, hi157, rfl, rfl, Ha_157, Hb_157, ow157, pl157, ph157, pm157, pn157, pd157, hb157⟩ := hcut
      obtain ⟨w157, rfl⟩ : ∃ x, x = wc := ⟨_, rfl⟩
      obtain rfl : na = m157 := HNA.out.symm.trans ow157.len
      have p0a_157 := cell_later hb157 p0a_96
      have p0b_157 := cell_later hb157 p0b_96
      have p1a_157 := cell_later hb157 p1a_96
      have p1b_157 := cell_later hb157 p1b_96
      have p2a_157 := cell_later hb157 p2a_96
      have p2b_157 := cell_later hb157 p2b_96
      have p3a_157 := cell_later hb157 p3a_96
      have p3b_157 := cell_later hb157 p3b_96
      have Wa_157 := cell_later hb157 Wa_96
      have Wb_157 := cell_later hb157 Wb_96
      have X0a_157 := cell_later hb157 X0a_96
      have X0b_157 := cell_later hb157 X0b_96
      have X1a_157 := cell_later hb157 X1a_96
      have X1b_157 := cell_later hb157 X1b_96
      have X2a_157 := cell_later hb157 X2a_96
      have X2b_157 := cell_later hb157 X2b_96
      have X3a_157 := cell_later hb157 X3a_96
      have X3b_157 := cell_later hb157 X3b_96
      have Ga_157 := cell_later hb157 Ga_96
      have Gb_157 := cell_later hb157 Gb_96
      have o_157 := o_96.below hb157
      have g_157 := g_96.below hb157
      have B_157 := B_96.trans (hb157.mono B_96.size)
      have zz157 : w96.heap.size ≤ w157.heap.size := by have q := hb157.size; first | exact q | simpa using q
      clear p0a_96 p0b_96 p1a_96 p1b_96 p2a_96 p2b_96 p3a_96 p3b_96 Wa_96 Wb_96 X0a_96 X0b_96 X1a_96 X1b_96 X2a_96 X2b_96 X3a_96 X3b_96 Ga_96 Gb_96 o_96 g_96 B_96
      clear hb157
      go_wp2_with fail
      refine (eqTableG _ _ _ _ _ ta pa _ hsA (ow157.atW hsA) (o_157.atW hsA)).mono ?_
      rintro e w158 ⟨rfl, hb158⟩
      have p0a_158 := cell_later hb158 p0a_157
      have p0b_158 := cell_later hb158 p0b_157
      have p1a_158 := cell_later hb158 p1a_157
      have p1b_158 := cell_later hb158 p1b_157
      have p2a_158 := cell_later hb158 p2a_157
      have p2b_158 := cell_later hb158 p2b_157
      have p3a_158 := cell_later hb158 p3a_157
      have p3b_158 := cell_later hb158 p3b_157
      have Wa_158 := cell_later hb158 Wa_157
      have Wb_158 := cell_later hb158 Wb_157
      have X0a_158 := cell_later hb158 X0a_157
      have X0b_158 := cell_later hb158 X0b_157
      have X1a_158 := cell_later hb158 X1a_157
      have X1b_158 := cell_later hb158 X1b_157
      have X2a_158 := cell_later hb158 X2a_157
      have X2b_158 := cell_later hb158 X2b_157
      have X3a_158 := cell_later hb158 X3a_157
      have X3b_158 := cell_later hb158 X3b_157
      have Ga_158 := cell_later hb158 Ga_157
      have Gb_158 := cell_later hb158 Gb_157
      have Ha_158 := cell_later hb158 Ha_157
      have Hb_158 := cell_later hb158 Hb_157
      have o_158 := o_157.below hb158
      have g_158 := g_157.below hb158
      have hg_158 := ow157.below hb158
      have B_158 := B_157.trans (hb158.mono B_157.size)
      have zz158 : w157.heap.size ≤ w158.heap.size := by have q := hb158.size; first | exact q | simpa using q
      clear p0a_157 p0b_157 p1a_157 p1b_157 p2a_157 p2b_157 p3a_157 p3b_157 Wa_157 Wb_157 X0a_157 X0b_157 X1a_157 X1b_157 X2a_157 X2b_157 X3a_157 X3b_157 Ga_157 Gb_157 Ha_157 Hb_157 o_157 g_157 ow157 B_157
      clear hb158
      go_wp2_with fail
      refine (heldTableG _ _ _ ta pa _ _ hsA (by omega) (by omega) (g_158.atMark hsA)).mono ?_
      rintro e w159 ⟨rfl, hb159⟩
      have p0a_159 := cell_later hb159 p0a_158
      have p0b_159 := cell_later hb159 p0b_158
      have p1a_159 := cell_later hb159 p1a_158
      have p1b_159 := cell_later hb159 p1b_158
      have p2a_159 := cell_later hb159 p2a_158
      have p2b_159 := cell_later hb159 p2b_158
      have p3a_159 := cell_later hb159 p3a_158
      have p3b_159 := cell_later hb159 p3b_158
      have Wa_159 := cell_later hb159 Wa_158
      have Wb_159 := cell_later hb159 Wb_158
      have X0a_159 := cell_later hb159 X0a_158
      have X0b_159 := cell_later hb159 X0b_158
      have X1a_159 := cell_later hb159 X1a_158
      have X1b_159 := cell_later hb159 X1b_158
      have X2a_159 := cell_later hb159 X2a_158
      have X2b_159 := cell_later hb159 X2b_158
      have X3a_159 := cell_later hb159 X3a_158
      have X3b_159 := cell_later hb159 X3b_158
      have Ga_159 := cell_later hb159 Ga_158
      have Gb_159 := cell_later hb159 Gb_158
      have Ha_159 := cell_later hb159 Ha_158
      have Hb_159 := cell_later hb159 Hb_158
      have o_159 := o_158.below hb159
      have g_159 := g_158.below hb159
      have hg_159 := hg_158.below hb159
      have B_159 := B_158.trans (hb159.mono B_158.size)
      have zz159 : w158.heap.size ≤ w159.heap.size := by have q := hb159.size; first | exact q | simpa using q
      clear p0a_158 p0b_158 p1a_158 p1b_158 p2a_158 p2b_158 p3a_158 p3b_158 Wa_158 Wb_158 X0a_158 X0b_158 X1a_158 X1b_158 X2a_158 X2b_158 X3a_158 X3b_158 Ga_158 Gb_158 Ha_158 Hb_158 o_158 g_158 hg_158 B_158
      clear hb159
      go_wp2
      go_ret
      exact ⟨rfl, B_159⟩

end Go.Proofs.Ytmkhdocjabflkaa
